/- What the laws' proofs stand on, part 2 of 3. -/
import Derived.Laws.AppendOwnNone
import Derived.Lib.AppendZerosOnto
import Derived.Lib.SliceRun
import Derived.Deep.AppendLies
import Derived.Shelf.SlSortCmp.WholeK
import Derived.Shelf.SlSortCmp.NoneTotal
import Derived.Laws.EntriesVeiled
import Derived.Deep.RegionLaw
import Derived.Deep.RegionWith
import Derived.Shelf.SlMaps.Clone
import Derived.Test.YtdhmicpoigoleabDoorChecked
import Derived.WalkKit
import Derived.LaidEql
import Derived.Stop.Asserts
import Derived.RowKitTokens
import Derived.Test.YtdhmicpoigoleabDoorBa

/- The contracts of the model's 'l4Times', 'l4Done' and 'SeriesTimes'. -/

namespace Go.Proofs.YtdhmicpoigoleabDoor
open Go.RowKit Go.Shelf

/-- The product of two terms whose words are put one behind the other; those of all pairs that are not too long. -/
def pairS (t u : Tm) : Tm := ⟨t.c * u.c, t.s ++ u.s⟩
def short (t : Tm) : Bool := decide (t.s.size ≤ 4)
def pairsS (x y : List Tm) : List Tm := x.flatMap fun t => (y.map (pairS t)).filter short
theorem pairsS_succ (x y : List Tm) (k : Nat) (h : k < x.length) : pairsS (x.take (k + 1)) y = pairsS (x.take k) y ++ (y.map (pairS x[k])).filter short := by
  unfold pairsS
  rw [List.take_succ_eq_append_getElem h, List.flatMap_append]
  simp
def rowS (t : Tm) (y : List Tm) : List Tm := (y.map (pairS t)).filter short
theorem rowS_succ (t : Tm) (y : List Tm) (j : Nat) (h : j < y.length) : rowS t (y.take (j + 1)) = rowS t (y.take j) ++ (if (t.s ++ y[j].s).size ≤ 4 then [pairS t y[j]] else []) := by
  unfold rowS
  rw [map_succ (pairS t) y j h, List.filter_append, List.filter_cons, List.filter_nil]
  congr 1
  by_cases hs : (t.s ++ y[j].s).size ≤ 4
  · rw [if_pos (show short (pairS t y[j]) = true from decide_eq_true hs), if_pos hs]
  · rw [if_neg (show ¬ short (pairS t y[j]) = true by unfold short pairS; simpa using hs), if_neg hs]

/-- What fits into the products of series. -/
def SerL (x : List Tm) : Prop := x.length ≤ 400 ∧ ∀ t ∈ x, t.s.size ≤ 4 ∧ -1000000 ≤ t.c ∧ t.c ≤ 1000000

set_option maxRecDepth 100000 in
set_option maxHeartbeats 8000000 in
theorem l4Times_any (a1 a2 : Option Addr) (c1 c2 n m : Nat) (x y : List Tm) (w : World) (hx : IsTerms w a1 n x) (hy : IsTerms w a2 m y) (hsx : SerL x) (hsy : SerL y) :
    Calls Tryd.prog 18 #[.slice a1 n c1, .slice a2 m c2] w fun e w' => (∃ v, e = .returned v ∧ Acc w.heap.size w' v (canonT (pairsS x y)) 160000 160000000000000000) ∧ Below w.heap.size w w' := by
  obtain ⟨hlx, hwx⟩ := hsx
  obtain ⟨hly, hwy⟩ := hsy
  have hn : n ≤ 400 := by rw [← hx.len]; exact hlx
  have hm : m ≤ 400 := by rw [← hy.len]; exact hly
  have HX := Lib.hid hx
  have HY := Lib.hid hy
  have HWX := Lib.hid hwx
  have HWY := Lib.hid hwy
  have hmx : Tryd.prog.follows .mixedOrders = true := by kernel_rfl
  have HN := Lib.hid (acc_zero w)
  clear hx hy hlx hwx hly hwy
  go_enter Tryd.func18, Tryd.ntmps18
  go_wp2
  go_loopw [5, 6] (fun v i wr => ∃ k : Nat, k ≤ n ∧ i = .int .i64 k ∧ Hid (Acc w.heap.size wr v ((pairsS (x.take k) y).foldl addT []) (400 * k) (400000000000000 * k)) ∧ Below w.heap.size w wr) (fun _ i _ => n - (intOf i).toNat)
  case atStart => exact ⟨0, Nat.zero_le _, rfl, HN, (Below.refl _ _).alloc (Nat.le_refl _) _⟩
  case round =>
    obtain ⟨k, hk, rfl, HA, hB⟩ := hrel
    by_cases hlt : k < n
    · have hkx : k < x.length := by rw [HX.out.len]; exact hlt
      obtain ⟨z, rfl, hz⟩ := HX.out.at_ (by omega)
      obtain ⟨t, ht⟩ : ∃ t, x[k] = t := ⟨_, rfl⟩
      have htb := HWX.out _ (List.getElem_mem hkx)
      rw [ht] at htb
      have HTI := Lib.hid htb
      have HT := Lib.hid ht
      have HZ := Lib.hid hz
      clear ht htb hz
      go_wp2
      go_loopw [5, 7] (fun v i wr => ∃ j : Nat, j ≤ m ∧ i = .int .i64 j ∧ Hid (Acc w.heap.size wr v ((pairsS (x.take k) y ++ rowS t (y.take j)).foldl addT []) (400 * k + j) (400000000000000 * k + 1000000000000 * j)) ∧ Below w.heap.size w wr) (fun _ i _ => m - (intOf i).toNat)
      case atStart => exact ⟨0, Nat.zero_le _, rfl, Lib.hid (by simpa [rowS] using HA.out), hB⟩
      case round =>
        obtain ⟨j, hj, rfl, HAj, hBj⟩ := hrel
        by_cases hltj : j < m
        · have hjy : j < y.length := by rw [HY.out.len]; exact hltj
          obtain ⟨zy, rfl, hzy⟩ := HY.out.at_ (by omega)
          obtain ⟨u, hu⟩ : ∃ u, y[j] = u := ⟨_, rfl⟩
          have hub := HWY.out _ (List.getElem_mem hjy)
          rw [hu] at hub
          have hzw := HZ.out.below hBj
          have hzyw := hzy.below hBj
          have hc := hzw.2 k hkx
          have hcy := hzyw.2 j hjy
          have hbz := hzw.1
          have hbzy := hzyw.1
          rw [HT.out, addr_next] at hc
          rw [hu, addr_next] at hcy
          obtain ⟨c0, d1⟩ := hc
          obtain ⟨e0, f1⟩ := hcy
          have hrow := rowS_succ t y j hjy
          rw [hu] at hrow
          obtain ⟨q, hq⟩ : ∃ q, t.s ++ u.s = q := ⟨_, rfl⟩
          rw [hq] at hrow
          have hti := HTI.out
          have hqs : q.size = t.s.size + u.s.size := by rw [← hq]; exact ByteArray.size_append
          have hnot : ¬ 9223372036854775807 < t.s.size + u.s.size := by omega
          have hpt : pairS t u = ⟨t.c * u.c, q⟩ := by unfold pairS; rw [hq]
          rw [hpt] at hrow
          have HMB := Lib.hid (mul_bnd hti.2 hub.2)
          have hmul : IntKind.i64.wrap (t.c * u.c) = t.c * u.c := by have := HMB.out; exact IntWalk.i64_in _ (by omega)
          have v0 := BelowBy.cell (w := wr) (by show (z.add (k * 2)).block < _; rw [addr_add_block]; exact hbz) d1
          have v1 := BelowBy.cell (w := wr) (by show (zy.add (j * 2)).block < _; rw [addr_add_block]; exact hbzy) f1
          have HROW := Lib.hid hrow
          have HC0 := Lib.hid c0
          have HE0 := Lib.hid e0
          have HBZ := Lib.hid hbz
          have HBZY := Lib.hid hbzy
          have HMUL := Lib.hid hmul
          have HQS := Lib.hid hqs
          clear hu hub hti hzw hzyw hzy c0 d1 e0 f1 hrow hpt hmul hqs
          go_wp2
          refine wp_region_below hmx (by kernel_rfl) ?_
          repeat (((with_reducible refine wpQuiet_step (fun K hK => ?_)); go_simp; first | ((with_reducible refine hK _ ?_); clear hK K) | (refine (if_neg (by decide)).mpr ?_; (with_reducible refine hK _ ?_); clear hK K)))
          with_reducible refine wpQuiet_nil ?_
          rintro W ⟨⟨W, hW⟩, rfl⟩
          clear v0 v1
          have hBW : Below w.heap.size w W := hBj.trans (hW.mono hBj.size)
          have HAW := Lib.hid (HAj.out.below hW)
          have c0 := (hW.cell (p := z.add (k * 2)) (by rw [addr_add_block]; exact HBZ.out)).trans HC0.out
          have e0 := (hW.cell (p := zy.add (j * 2)) (by rw [addr_add_block]; exact HBZY.out)).trans HE0.out
          have hmul := HMUL.out
          change Exit.then _ _ _ _ W
          by_cases hqs4 : q.size ≤ 4
          · have HROW2 : Hid (rowS t (y.take (j + 1)) = rowS t (y.take j) ++ [⟨t.c * u.c, q⟩]) := Lib.hid (by rw [HROW.out, if_pos hqs4])
            go_wp2
            go_still_tail 13, hmx
            change wpList _ _ _ _ _ W.drew
            go_wp2_with fail
            refine (step_any w.heap.size u5 _ _ _ 1000000000000 (t.c * u.c) q W.drew (HAW.out.below (Below.refl _ _).drew) (by omega) (by omega) (by omega) (by omega) HMB.out (by omega) hBW.size).mono ?_
            rintro e w4 ⟨⟨v', rfl, ho⟩, hb4⟩
            have hB4 : Below w.heap.size w w4 := hBW.trans (((Below.refl _ _).drew.trans hb4).mono hBW.size)
            have HO := Lib.hid ho
            clear ho hb4
            go_wp2
            go_roundw
            case rel =>
              refine ⟨j + 1, by omega, by go_num, Lib.hid ?_, hB4⟩
              rw [HROW2.out, ← List.append_assoc, List.foldl_append]
              exact HO.out.more (by omega) (by omega)
            case measure => simp [intOf]; omega
          · have HROW2 : Hid (rowS t (y.take (j + 1)) = rowS t (y.take j)) := Lib.hid (by rw [HROW.out, if_neg hqs4, List.append_nil])
            go_wp2
            go_roundw
            case rel =>
              refine ⟨j + 1, by omega, by go_num, Lib.hid ?_, hBW⟩
              rw [HROW2.out]
              exact HAW.out.more (by omega) (by omega)
            case measure => simp [intOf]; omega
        · obtain rfl : j = m := by omega
          go_wp2
          go_roundw
          case rel =>
            refine ⟨k + 1, by omega, by go_num, Lib.hid ?_, hBj⟩
            have h := HAj.out
            rw [show y.take j = y from List.take_of_length_le (by rw [HY.out.len]; exact Nat.le_refl _)] at h
            rw [pairsS_succ x y k hkx, HT.out]
            exact h.more (by omega) (by omega)
          case measure => simp [intOf]; omega
    · obtain rfl : k = n := by omega
      have hacc := HA.out
      rw [List.take_of_length_le (by rw [HX.out.len]; exact Nat.le_refl _)] at hacc
      have HAcc := Lib.hid hacc
      clear hacc
      go_wp2
      go_ret
      exact ⟨⟨_, rfl, HAcc.out.more (by omega) (by omega)⟩, hB⟩

/-! ### Told -/
theorem serB_is (ts : List Tm) : serB ts = ((List.range ts.length).all (serAt ts) && decide (ts.length ≤ 400)) := rfl
theorem serB_parts {ts : List Tm} (h : serB ts = true) : ts.length ≤ 400 ∧ (∀ t ∈ ts, t.c ≠ 0 ∧ (-1000000 ≤ t.c ∧ t.c ≤ 1000000) ∧ monoB t.s = true) ∧ Canon ts := by
  rw [serB_is] at h
  simp only [Bool.and_eq_true, decide_eq_true_eq] at h
  obtain ⟨h1, h2⟩ := h
  have hat : ∀ j (hj : j < ts.length), ts[j].c ≠ 0 ∧ (-1000000 ≤ ts[j].c ∧ ts[j].c ≤ 1000000) ∧ monoB ts[j].s = true ∧ (j = 0 ∨ lessW (ts.getD (j - 1) default).s (ts.getD j default).s = true) := fun j hj => by
    have h3 := List.all_eq_true.1 h1 j (List.mem_range.2 hj)
    have hg : ts.getD j default = ts[j] := by rw [List.getD_eq_getElem?_getD, List.getElem?_eq_getElem hj]; rfl
    unfold serAt inR at h3
    simp only [Bool.and_eq_true, bne_iff_ne, ne_eq, Bool.or_eq_true, decide_eq_true_eq] at h3
    rw [hg] at h3 ⊢
    exact ⟨h3.1.1.1, h3.1.1.2, h3.1.2, h3.2⟩
  refine ⟨h2, fun t ht => ?_, pairwise_lessW fun k hk hk0 => ?_, fun t ht => ?_⟩
  · obtain ⟨j, hj, rfl⟩ := List.getElem_of_mem ht
    exact ⟨(hat j hj).1, (hat j hj).2.1, (hat j hj).2.2.1⟩
  · rcases (hat k hk).2.2.2 with h | h
    · omega
    · exact h
  · obtain ⟨j, hj, rfl⟩ := List.getElem_of_mem ht
    exact (hat j hj).1
theorem mono_size {s : ByteArray} (h : monoB s = true) : s.size ≤ 4 := by
  unfold monoB at h
  simp only [Bool.and_eq_true, decide_eq_true_eq] at h
  exact h.2
theorem serL_of {ts : List Tm} (h : serB ts = true) : SerL ts := by
  obtain ⟨h1, h2, _⟩ := serB_parts h
  exact ⟨h1, fun t ht => ⟨mono_size (h2 t ht).2.2, (h2 t ht).2.1⟩⟩
/-- For canonical lists only the terms have to be looked at. -/
def twS (ts : List Tm) : Bool := decide (ts.length ≤ 400) && ts.all fun t => inR (-1000000) 1000000 t.c && monoB t.s
theorem serB_canon {ts : List Tm} (h : Canon ts) : serB ts = twS ts := by
  rw [serB_is, Bool.and_comm]
  unfold twS
  congr 1
  have hg : ∀ j (h : j < ts.length), ts.getD j default = ts[j] := fun j h => by rw [List.getD_eq_getElem?_getD, List.getElem?_eq_getElem h]; rfl
  rw [Bool.eq_iff_iff]
  simp only [List.all_eq_true, List.mem_range]
  constructor
  · intro h1 t ht
    obtain ⟨j, hj, rfl⟩ := List.getElem_of_mem ht
    have h3 := h1 j hj
    unfold serAt at h3
    rw [hg j hj] at h3
    simp only [Bool.and_eq_true] at h3 ⊢
    exact ⟨h3.1.1.2, h3.1.2⟩
  · intro h1 j hj
    have h3 := h1 _ (List.getElem_mem hj)
    simp only [Bool.and_eq_true] at h3
    unfold serAt
    rw [hg j hj, h3.1, h3.2]
    have h4 : (ts[j].c != 0) = true := by simpa using h.2 _ (List.getElem_mem hj)
    rw [h4]
    by_cases hj0 : j = 0
    · simp [hj0]
    · have h5 := List.pairwise_iff_getElem.1 h.1 (j - 1) j (by omega) hj (by omega)
      rw [hg (j - 1) (by omega), h5]
      simp
theorem twS_parts {ts : List Tm} (h : twS ts = true) : ts.length ≤ 400 ∧ ∀ t ∈ ts, (-1000000 ≤ t.c ∧ t.c ≤ 1000000) ∧ monoB t.s = true := by
  unfold twS inR at h
  simp only [Bool.and_eq_true, decide_eq_true_eq, List.all_eq_true] at h
  exact h
theorem told_smallS {b : Bool} {L us : List Tm} (h : b = true → twS L = true) (hus : cond b L [] = us) : SmallT us ∧ us.length ≤ 400 := by
  cases b with
  | false => subst hus; exact ⟨⟨Nat.zero_le _, fun t h => by cases h⟩, Nat.zero_le _⟩
  | true =>
    have hus : L = us := hus
    subst hus
    obtain ⟨h1, h2⟩ := twS_parts (h rfl)
    exact ⟨⟨by unfold maxLen; omega, fun t ht => by have := h2 t ht; have := mono_size this.2; unfold maxLen; omega⟩, h1⟩
theorem sSeriesIn_is (a : Option Addr) (cap n : Nat) (ts : List Tm) (b : Bool) (w : World) (hs : IsTerms w a n ts) (hb : serB ts = b) :
    Calls Tryd.prog 16 #[.slice a n cap] w fun e w' => e = .returned (.bool b) ∧ Below w.heap.size w w' := by
  subst hb; exact sSeriesIn_any a cap n ts w hs

theorem s4Done_any (base : Nat) (v : Value) (ts : List Tm) (b : Bool) (w : World) (h : OwnTerms base w v ts) (hs : SmallT ts) (hbase : base ≤ w.heap.size) (hb : serB ts = b) :
    Calls Tryd.prog 19 #[v] w fun e w' => (∃ v', e = .returned (.tuple #[v', .bool b]) ∧ OwnTerms base w' v' (cond b ts [])) ∧ Below w.heap.size w w' := by
  obtain ⟨g, cap, rfl, h1, h2, h3, h4⟩ := h.form
  have HI : Hid (IsTerms w (some ⟨g, 0, none⟩) ts.length ts) := Lib.hid ⟨rfl, hs.1, fun _ => ⟨_, rfl, h1⟩, hs.2⟩
  obtain ⟨n, hn⟩ : ∃ n, ts.length = n := ⟨_, rfl⟩
  have HH := Lib.hid h
  rw [hn] at HI HH ⊢
  have HB := Lib.hid hb
  clear h h1 h2 h3 hs hb hn
  cases b with
  | true =>
    go_enter Tryd.func19, Tryd.ntmps19
    go_wp2_with fail
    refine (sSeriesIn_is _ cap n ts true _ HI.out HB.out).mono ?_
    rintro e w' ⟨rfl, hb⟩
    go_wp2
    go_ret2
    exact ⟨⟨_, rfl, HH.out.below hb⟩, hb⟩
  | false =>
    go_enter Tryd.func19, Tryd.ntmps19
    go_wp2_with fail
    refine (sSeriesIn_is _ cap n ts false _ HI.out HB.out).mono ?_
    rintro e w' ⟨rfl, hb⟩
    go_wp2
    go_ret2
    exact ⟨⟨_, rfl, (ownEmpty w').mono (Nat.le_trans hbase hb.size)⟩, hb.trans (((Below.refl _ _).alloc (Nat.le_refl _) _).mono hb.size)⟩

/-- What SeriesTimes answers. -/
def serProdB (x y : List Tm) : Bool := serB x && (serB y && twS (canonT (pairsS x y)))
theorem serProdB_tw {x y : List Tm} {b : Bool} (h : serProdB x y = b) : b = true → twS (canonT (pairsS x y)) = true := by
  intro hb
  subst hb
  unfold serProdB at h
  simp only [Bool.and_eq_true] at h
  exact h.2.2

end Go.Proofs.YtdhmicpoigoleabDoor

/- The contracts of the program's 'generatorsOnly', 'fitsLyndon' and 'LyndonIn'. -/

namespace Go.Proofs.YtdhmicpoigoleabDoor
open Go.RowKit Go.Shelf

attribute [local go_sem] Oper.semAt_some

def genL (l : List UInt8) : Bool := l.all genB
theorem genL_append (a b : List UInt8) : genL (a ++ b) = (genL a && genL b) := by simp [genL]
theorem genL_prefix {p l : List UInt8} (hp : p <+: l) (h : genL p = false) : genL l = false := by
  obtain ⟨r, rfl⟩ := hp
  rw [genL_append, h]; rfl
theorem genB_let (c : UInt8) : genB c = (letB c && decide (0 ≤ sgnB c)) := by
  have h : ∀ n : Fin 256, genB (UInt8.ofNat n.val) = (letB (UInt8.ofNat n.val) && decide (0 ≤ sgnB (UInt8.ofNat n.val))) := by decide +kernel
  have := h ⟨c.toNat, c.toNat_lt⟩
  simpa using this

set_option maxRecDepth 100000 in
set_option maxHeartbeats 1000000 in
theorem gens_in (n : Nat) (hn : 30 ≤ n) (s : ByteArray) (w : World) (hs : s.size ≤ 12) :
    CallsIn Fence.wide n Tryd.prog 72 #[.string s] w fun e w' => e = .returned (.bool (genL s.data.toList)) ∧ Below w.heap.size w w' := by
  refine callsIn_of_wp_marks Tryd.func72 rfl trivial ?_ rfl
  simp only [Tryd.ntmps72, List.size_toArray, List.length_cons, List.length_nil, Nat.reduceAdd, Nat.reduceSub, Array.replicate_succ, Array.replicate_zero, List.push_toArray, List.append_toArray, List.nil_append, List.cons_append]
  gi_wp2_with fail
  refine ⟨trivial, fun _ => by omega, ?_⟩
  refine (callsIn_wide.2 (signsOf_any s _)).mono ?_
  rintro e w1 ⟨rfl, rfl⟩
  have b1 := (Boxed.new w 4 (.bool false)).alloc (.cells #[.string s] 9)
  have b2 := Boxed.new (w.alloc (.cells #[.bool false] 4)) 9 (.string s)
  rw [World.size_alloc] at b2
  have hB0 : Below w.heap.size w ((w.alloc (.cells #[.bool false] 4)).alloc (.cells #[.string s] 9)) := ((Below.refl _ w).alloc (Nat.le_refl _) _).alloc (by simp) _
  have hsz : ((w.alloc (.cells #[.bool false] 4)).alloc (.cells #[.string s] 9)).heap.size = w.heap.size + 2 := by simp
  obtain ⟨W0, hW0⟩ : ∃ W0, ((w.alloc (.cells #[.bool false] 4)).alloc (.cells #[.string s] 9)) = W0 := ⟨_, rfl⟩
  simp only [World.size_alloc]
  rw [hW0] at b1 b2 hB0 hsz ⊢
  clear hW0
  gi_wp2
  refine wpIn_rangeFunc_ownG rfl (by omega) (gf := 83) (lb := #[.pointer (some ⟨w.heap.size + 1, 0, none⟩)]) rfl trivial (enters_of Tryd.func83 (by kernel_rfl) rfl)
    (signs_seq s (by omega) W0 (w.heap.size + 1) W0.heap.size (by omega) (Nat.le_refl _) b2.cell (n - 1) (by omega)) belowK_t (belowK_b (Nat.le_refl _)) (Below.refl _ _) (fun _ => rfl)
    (fun pre W => Boxed W w.heap.size 4 (.bool false) ∧ genL pre = true ∧ Below W0.heap.size W0 W)
    (fun c pre W => ((c = .ret ∧ genL pre = false) ∧ Boxed W w.heap.size 4 (.bool false)) ∧ Below w.heap.size w W)
    (OwnFrom.and (Own.from (fun s A B row hs hg hr => boxed_own w.heap.size _ (fun _ : Unit => .bool false) () A B row hs hg hr) _) (OwnFrom.and (ownFrom_pure _ _) (ownFrom_below (Nat.le_refl _) (Nat.le_refl _))))
    (fun c => OwnFrom.and (Own.from (fun s A B row hs hg hr => ⟨hs.1, boxed_own w.heap.size _ (fun _ : Unit => .bool false) () A B row hs.2 hg hr⟩) _) (ownFrom_below (Nat.le_refl _) (by omega)))
    ⟨b1, rfl, Below.refl _ _⟩
    (fun x => { tmps := #[.string s, undef, .pointer (some ⟨w.heap.size, 0, none⟩), .int .u8 (x.toNat : Int), .string s, .func (.func 83) #[] #[.pointer (some ⟨w.heap.size + 1, 0, none⟩)], .int .u8 (x.toNat : Int), undef, undef, undef, undef, undef, undef, undef, undef], defers := [] }) ?assign ?body ?done ?stop
  case assign =>
    intro l x W K hK
    gi_wp2
    exact hK
  case body =>
    rintro l pre x W ⟨c1, hl, hB⟩ hlen
    have d1 := c1.cell
    have f1 := c1.frozen
    have C1 := Lib.hid c1
    have HL := Lib.hid hl
    have hBw : Below w.heap.size w W := hB0.trans (hB.mono (by omega))
    have HBw := Lib.hid hBw
    clear c1 hl hBw
    cases hx : letB x with
    | true =>
      have HX := Lib.hid hx
      by_cases hsg : 0 ≤ sgnB x
      · have hg : genB x = true := by rw [genB_let, hx]; simp [hsg]
        have HG := Lib.hid hg
        obtain ⟨u, hu⟩ : ∃ u, sgnB x = u := ⟨_, rfl⟩
        have HSX := Lib.hid (show ∀ W, Calls Tryd.prog 81 #[.int .u8 (x.toNat : Int)] W fun e w' => e = .returned (.int .i64 u) ∧ w' = W from fun W => by rw [← hu]; exact iSign_any x W hx)
        rw [hu] at hsg
        have hneg : ¬ u < 0 := by omega
        have hdu : decide (u < 0) = false := decide_eq_false hneg
        clear hx hg hu
        gi_wp2_with fail
        refine ⟨trivial, fun _ => by omega, ?_⟩
        refine (CallsIn.inRound l (callsIn_wide.2 (known_is x true W HX.out))).mono ?_
        rintro e w1 ⟨rfl, rfl⟩
        gi_wp2_with fail
        refine ⟨trivial, fun _ => by omega, ?_⟩
        refine (CallsIn.inRound l (callsIn_wide.2 (HSX.out _))).mono ?_
        rintro e w2 ⟨rfl, rfl⟩
        gi_wp2
        exact ⟨KeepsFrom.refl _ _, Below.refl _ _, C1.out, by rw [genL_append, HL.out]; simp [genL, HG.out], hB⟩
      · have hg : genB x = false := by rw [genB_let, hx]; simp [hsg]
        have HG := Lib.hid hg
        obtain ⟨u, hu⟩ : ∃ u, sgnB x = u := ⟨_, rfl⟩
        have HSX := Lib.hid (show ∀ W, Calls Tryd.prog 81 #[.int .u8 (x.toNat : Int)] W fun e w' => e = .returned (.int .i64 u) ∧ w' = W from fun W => by rw [← hu]; exact iSign_any x W hx)
        rw [hu] at hsg
        have hneg : u < 0 := by omega
        have hdu : decide (u < 0) = true := decide_eq_true hneg
        clear hx hg hu
        gi_wp2_with fail
        refine ⟨trivial, fun _ => by omega, ?_⟩
        refine (CallsIn.inRound l (callsIn_wide.2 (known_is x true W HX.out))).mono ?_
        rintro e w1 ⟨rfl, rfl⟩
        gi_wp2_with fail
        refine ⟨trivial, fun _ => by omega, ?_⟩
        refine (CallsIn.inRound l (callsIn_wide.2 (HSX.out _))).mono ?_
        rintro e w2 ⟨rfl, rfl⟩
        gi_wp2
        exact ⟨(KeepsOthers.setCell _ _ _).from _, ⟨⟨rfl, by rw [genL_append]; simp [genL, HG.out]⟩, C1.out.set _⟩, HBw.out.setCell (p := ⟨w.heap.size, 0, none⟩) (Nat.le_refl _) _⟩
    | false =>
      have HX := Lib.hid hx
      have HG := Lib.hid (show genB x = false by rw [genB_let, hx]; rfl)
      clear hx
      gi_wp2_with fail
      refine ⟨trivial, fun _ => by omega, ?_⟩
      refine (CallsIn.inRound l (callsIn_wide.2 (known_is x false W HX.out))).mono ?_
      rintro e w1 ⟨rfl, rfl⟩
      gi_wp2_with fail
      refine ⟨trivial, ?_⟩
      gi_wp2
      exact ⟨(KeepsOthers.setCell _ _ _).from _, ⟨⟨rfl, by rw [genL_append]; simp [genL, HG.out]⟩, C1.out.set _⟩, HBw.out.setCell (p := ⟨w.heap.size, 0, none⟩) (Nat.le_refl _) _⟩
  case done =>
    rintro D ys W hD rfl ⟨c1, hl, hB⟩ hK
    have hBW : Below w.heap.size w W := hB0.trans (hB.mono (by omega))
    have hDlt : D < W.heap.size := (Array.getElem?_eq_some_iff.1 hK).1
    have d1 := c1.cell
    have f1 := c1.frozen
    have C1 := Lib.hid c1
    have HK := Lib.hid hK
    have HL := Lib.hid hl
    clear c1 hK hl
    gi_wp2
    obtain ⟨W5, hW5⟩ : ∃ W5, W.setCell ⟨w.heap.size, 0, none⟩ (.bool true) = W5 := ⟨_, rfl⟩
    have e1 : Boxed W5 w.heap.size 4 (.bool true) := by rw [← hW5]; exact C1.out.set _
    have hK5 : W5.heap[D]? = some (.deferred (some [])) := by rw [← hW5]; exact (KeepsOthers.setCell _ _ _).same D _ HK.out rfl
    have hB5 : Below w.heap.size w W5 := by rw [← hW5]; exact hBW.setCell (p := ⟨w.heap.size, 0, none⟩) (Nat.le_refl _) _
    rw [hW5]
    clear hW5
    refine ⟨by simp, .inl ⟨_, _, rfl, run_takeDeferred hK5, ?_⟩⟩
    have g1 := (e1.kept (grownBy_putObj' W5 D (.deferred none)) (fun e => by cases e; omega)).cell
    refine ⟨.bool true, by simp [results, Tryd.f72, go_sem, g1], by rw [HL.out], hB5.trans (belowK_b (w := w) (Nat.le_refl _) W5 D _ _ (by omega) hK5 rfl rfl)⟩
  case stop =>
    rintro D c pre W hD hpre ⟨⟨⟨rfl, hl⟩, c1⟩, hB⟩ hK
    gi_wp2
    refine ⟨by simp, .inl ⟨_, _, rfl, run_takeDeferred hK, ?_⟩⟩
    have e1 := (c1.kept (grownBy_putObj' W D (.deferred none)) (fun e => by cases e; omega)).cell
    refine ⟨.bool false, by simp [results, Tryd.f72, go_sem, e1], by rw [genL_prefix hpre hl], hB.trans (belowK_b (w := w) (Nat.le_refl _) W D _ _ (by omega) hK rfl rfl)⟩

theorem gens_any (s : ByteArray) (b : Bool) (w : World) (hs : s.size ≤ 12) (hb : genL s.data.toList = b) :
    Calls Tryd.prog 72 #[.string s] w fun e w' => e = .returned (.bool b) ∧ Below w.heap.size w w' := by
  rw [← hb]; exact (callsIn_wide (n := 30)).1 (gens_in 30 (by omega) s w hs)

end Go.Proofs.YtdhmicpoigoleabDoor

/- The contracts of the program's 'known' (of a monomial), 'ofSeries' and 'SeriesIn'. -/

namespace Go.Proofs.YtdhmicpoigoleabDoor
open Go.RowKit Go.Shelf

attribute [local go_sem] Oper.semAt_some

set_option maxRecDepth 100000 in
set_option maxHeartbeats 1000000 in
theorem known4_any (s : ByteArray) (w : World) (hs : s.size ≤ maxLen) :
    Calls Tryd.prog 56 #[.string s] w fun e w' => e = .returned (.bool (monoB s)) ∧ Below w.heap.size w w' := by
  obtain ⟨b, hb⟩ : ∃ b, genL s.data.toList = b := ⟨_, rfl⟩
  have HB := Lib.hid hb
  clear hb
  unfold maxLen at hs
  by_cases h : s.size ≤ 4
  · have hm : monoB s = b := by
      rw [← HB.out]
      unfold monoB genL
      rw [decide_eq_true h, Bool.and_true]
    have hi : (s.size : Int) ≤ 4 := by omega
    rw [hm]
    clear hm
    go_enter Tryd.func56, Tryd.ntmps56
    go_wp2_with fail
    refine (gens_any s b _ (by omega) HB.out).mono ?_
    rintro e w1 ⟨rfl, hb1⟩
    go_wp2
    go_ret
    exact ⟨rfl, hb1⟩
  · have hm : monoB s = false := by unfold monoB; rw [decide_eq_false h, Bool.and_false]
    have hi : ¬ (s.size : Int) ≤ 4 := by omega
    rw [hm]
    clear hm
    go_enter Tryd.func56, Tryd.ntmps56
    go_wp2
    go_ret
    exact ⟨rfl, Below.refl _ w⟩
theorem known4_is (s : ByteArray) (b : Bool) (w : World) (hs : s.size ≤ maxLen) (hb : monoB s = b) :
    Calls Tryd.prog 56 #[.string s] w fun e w' => e = .returned (.bool b) ∧ Below w.heap.size w w' := by rw [← hb]; exact known4_any s w hs

end Go.Proofs.YtdhmicpoigoleabDoor

/- The contracts of the program's 'ofSeries' and 'SeriesIn'. -/

namespace Go.Proofs.YtdhmicpoigoleabDoor
open Go.RowKit Go.Shelf

attribute [local go_sem] Oper.semAt_some

/-- Is a term as a series wants it? -/
def okT (t : Tm) : Bool := monoB t.s && (inR (-1000000) 1000000 t.c && !(t.c == 0))
theorem all_mem {f g : Tm → Bool} : ∀ {l : List Tm}, (∀ t ∈ l, f t = g t) → l.all f = l.all g
  | [], _ => rfl
  | t :: r, h => by rw [List.all_cons, List.all_cons, h t (by simp), all_mem fun u hu => h u (List.mem_cons_of_mem _ hu)]
theorem serB_eq (ts : List Tm) : serB ts = (decide (ts.length ≤ 400) && (ascB ts && ts.all okT)) := by
  by_cases hc : Canon ts
  · rw [serB_canon hc, ascB_canon hc, Bool.true_and]
    unfold twS
    congr 1
    refine all_mem fun t ht => ?_
    unfold okT
    have : (t.c == 0) = false := by simpa using hc.2 t ht
    rw [this, Bool.not_false, Bool.and_true, Bool.and_comm]
  · have h1 : serB ts = false := by
      cases h : serB ts
      · rfl
      · exact absurd (serB_parts h).2.2 hc
    have h2 : (ascB ts && ts.all okT) = false := by
      cases h : (ascB ts && ts.all okT)
      · rfl
      · refine absurd ?_ hc
        simp only [Bool.and_eq_true] at h
        refine ⟨pairwise_lessW fun k hk hk0 => ?_, fun t ht => ?_⟩
        · have h3 := h.1
          unfold ascB at h3
          have := List.all_eq_true.1 h3 k (List.mem_range.2 hk)
          simp only [Bool.or_eq_true, decide_eq_true_eq] at this
          rcases this with h | h
          · omega
          · exact h
        · have := List.all_eq_true.1 h.2 t ht
          unfold okT at this
          simp only [Bool.and_eq_true, Bool.not_eq_true', beq_eq_false_iff_ne] at this
          exact this.2.2
    rw [h1, h2, Bool.and_false]

set_option maxHeartbeats 1000000 in
theorem ofSeries_is (t : Tm) (b : Bool) (w : World) (hs : t.s.size ≤ maxLen) (hb : okT t = b) :
    Calls Tryd.prog 42 #[.agg #[.int .i64 t.c, .string t.s]] w fun e w' => e = .returned (.bool b) ∧ Below w.heap.size w w' := by
  have HS := Lib.hid hs
  clear hs
  unfold okT at hb
  cases hm : monoB t.s with
  | false =>
    rw [hm] at hb
    obtain rfl : b = false := hb.symm
    have HM := Lib.hid hm
    clear hm hb
    obtain ⟨c, s⟩ := t
    go_enter Tryd.func42, Tryd.ntmps42
    go_wp2_with fail
    refine (known4_is s false _ HS.out HM.out).mono ?_
    rintro e w1 ⟨rfl, hb1⟩
    have HB1 := Lib.hid hb1
    clear hb1
    go_wp2
    go_ret
    exact ⟨rfl, ((Below.refl _ w).alloc (Nat.le_refl _) _).trans (HB1.out.mono (by simp))⟩
  | true =>
    rw [hm, Bool.true_and] at hb
    have HM := Lib.hid hm
    clear hm
    have hbx : ∀ w1, Below (w.alloc (.cells #[.int .i64 t.c, .string t.s] TI)).heap.size (w.alloc (.cells #[.int .i64 t.c, .string t.s] TI)) w1 → w1.cell? ⟨w.heap.size, 0, none⟩ = some (.int .i64 t.c) ∧ w1.cell? ⟨w.heap.size, 1, none⟩ = some (.string t.s) := fun w1 hb => by
      constructor
      · rw [hb.cell (p := ⟨w.heap.size, 0, none⟩) (by simp)]; exact (World.cell?_alloc_at _ _ _ _ (by simp)).trans rfl
      · rw [hb.cell (p := ⟨w.heap.size, 1, none⟩) (by simp)]; exact (World.cell?_alloc_at _ _ _ _ (by simp)).trans rfl
    have HBX := Lib.hid hbx
    clear hbx
    cases hr : inR (-1000000) 1000000 t.c with
    | false =>
      rw [hr] at hb
      obtain rfl : b = false := hb.symm
      have HR := Lib.hid hr
      clear hr hb
      obtain ⟨c, s⟩ := t
      go_enter Tryd.func42, Tryd.ntmps42
      go_wp2_with fail
      refine (known4_is s true _ HS.out HM.out).mono ?_
      rintro e w1 ⟨rfl, hb1⟩
      obtain ⟨x0, x1⟩ := HBX.out w1 hb1
      have HB1 := Lib.hid hb1
      clear hb1
      go_wp2_with fail
      refine (inRange_is ⟨c, s⟩ false _ HR.out).mono ?_
      rintro e w2 ⟨rfl, hb2⟩
      have HB2 := Lib.hid (HB1.out.trans (hb2.mono HB1.out.size))
      clear hb2
      go_wp2
      go_ret
      exact ⟨rfl, ((Below.refl _ w).alloc (Nat.le_refl _) _).trans (HB2.out.mono (by simp))⟩
    | true =>
      rw [hr, Bool.true_and] at hb
      have HR := Lib.hid hr
      clear hr
      obtain ⟨c, s⟩ := t
      obtain ⟨z, hz⟩ : ∃ z, (c == 0) = z := ⟨_, rfl⟩
      have hb' : (!z) = b := by rw [← hz]; exact hb
      have HZ := Lib.hid (show ∀ W, Calls Tryd.prog 58 #[.agg #[.int .i64 c, .string s]] W fun e w' => e = .returned (.bool z) ∧ Grew W w' from fun W => by rw [← hz]; exact isZero_any ⟨c, s⟩ W)
      clear hz hb
      go_enter Tryd.func42, Tryd.ntmps42
      go_wp2_with fail
      refine (known4_is s true _ HS.out HM.out).mono ?_
      rintro e w1 ⟨rfl, hb1⟩
      obtain ⟨x0, x1⟩ := HBX.out w1 hb1
      have HB1 := Lib.hid hb1
      clear hb1
      go_wp2_with fail
      refine (inRange_is ⟨c, s⟩ true _ HR.out).mono ?_
      rintro e w2 ⟨rfl, hb2⟩
      have HB2 := Lib.hid (HB1.out.trans (hb2.mono HB1.out.size))
      clear hb2 x0 x1
      obtain ⟨x0, x1⟩ := HBX.out w2 HB2.out
      go_wp2_with fail
      refine (HZ.out _).mono ?_
      rintro e w3 ⟨rfl, hb3⟩
      have HB3 := Lib.hid (HB2.out.trans (hb3.below.mono HB2.out.size))
      clear hb3 x0 x1
      go_wp2
      go_ret
      exact ⟨by first | rfl | exact ret_bool hb'.symm, ((Below.refl _ w).alloc (Nat.le_refl _) _).trans (HB3.out.mono (by simp))⟩

theorem all_take {ts : List Tm} {f : Tm → Bool} {k : Nat} (hk : k < ts.length) (h : (ts.take k).all f = true) (hf : f ts[k] = true) : (ts.take (k + 1)).all f = true := by
  rw [List.take_succ_eq_append_getElem hk, List.all_append, h]
  simp [hf]

set_option maxRecDepth 100000 in
set_option maxHeartbeats 2000000 in
theorem iSeriesIn_any (a : Option Addr) (cap n : Nat) (ts : List Tm) (w : World) (hs : IsTerms w a n ts) :
    Calls Tryd.prog 24 #[.slice a n cap] w fun e w' => e = .returned (.bool (serB ts)) ∧ Below w.heap.size w w' := by
  have hm := hs.max
  have hE := serB_eq ts
  rw [hs.len] at hE
  have HN := Lib.hid hs.len
  have HS := Lib.hid hs
  clear hs
  unfold maxLen at hm
  by_cases h4 : n ≤ 400
  · have hgt : decide ((400 : Int) < (n : Int)) = false := decide_eq_false (by omega)
    rw [decide_eq_true h4, Bool.true_and] at hE
    have HE := Lib.hid hE
    clear hE
    have hb2 : Below w.heap.size w (w.alloc (.cells #[.slice a n cap, .func (.func 33) #[] #[]] 81)) := (Below.refl _ w).alloc (Nat.le_refl _) _
    have HS2 := Lib.hid (HS.out.below hb2)
    have hn0 : w.heap.size < (w.alloc (.cells #[.slice a n cap, .func (.func 33) #[] #[]] 81)).heap.size := by simp
    have HA := Lib.hid (ascends_any w.heap.size a cap n ts (w.alloc (.cells #[.slice a n cap, .func (.func 33) #[] #[]] 81)) HS2.out hn0 ((World.cell?_alloc_at _ _ _ _ (by simp)).trans rfl) ((World.cell?_alloc_at _ _ _ _ (by simp)).trans rfl))
    have HB2 := Lib.hid hb2
    clear hb2 hn0
    cases h3 : ascB ts with
    | false =>
      have H3 := Lib.hid h3
      clear h3
      go_enter Tryd.func24, Tryd.ntmps24
      go_wp2_with fail
      refine HA.out.mono ?_
      rintro e w3 ⟨rfl, hb3⟩
      have H3' := H3.out
      rw [H3']
      clear H3'
      have HB3 := Lib.hid (HB2.out.trans (hb3.mono HB2.out.size))
      clear hb3
      go_wp2
      go_ret
      exact ⟨ret_bool (by rw [HE.out, H3.out]; rfl), HB3.out⟩
    | true =>
      have H3 := Lib.hid h3
      clear h3
      go_enter Tryd.func24, Tryd.ntmps24
      go_wp2_with fail
      refine HA.out.mono ?_
      rintro e w3 ⟨rfl, hb3⟩
      have H3' := H3.out
      rw [H3']
      clear H3'
      have HB3 := Lib.hid (HB2.out.trans (hb3.mono HB2.out.size))
      have HS3 := Lib.hid (HS2.out.below hb3)
      clear hb3
      go_wp2_with fail
      go_loopw [17] (fun i wr => ∃ k : Nat, k ≤ n ∧ i = .int .i64 k ∧ Hid ((ts.take k).all okT = true) ∧ Below w.heap.size w wr) (fun i _ => n - (intOf i).toNat)
      case atStart => exact ⟨0, Nat.zero_le _, rfl, Lib.hid rfl, HB3.out⟩
      case round =>
        obtain ⟨k, hk, rfl, HK, hB⟩ := hrel
        by_cases hlt : k < n
        · have hkz : k < ts.length := by rw [HN.out]; exact hlt
          obtain ⟨x, rfl, hx⟩ := HS.out.at_ (by omega)
          obtain ⟨t, ht⟩ : ∃ t, ts[k] = t := ⟨_, rfl⟩
          have hc := (hx.below hB).2 k hkz
          rw [ht, addr_next] at hc
          obtain ⟨hc0, hc1⟩ := hc
          have hsm : t.s.size ≤ maxLen := by rw [← ht]; exact (HS.out.small _ (List.getElem_mem hkz)).1
          have HT := Lib.hid ht
          have HSM := Lib.hid hsm
          have hwr := Lib.hid hB
          clear hx ht hsm hB
          cases hok : okT t with
          | false =>
            have HO := Lib.hid hok
            clear hok
            go_wp2_with fail
            refine (ofSeries_is t false _ HSM.out HO.out).mono ?_
            rintro e w4 ⟨rfl, hb4⟩
            have HB4 := Lib.hid hb4
            clear hb4
            go_wp2
            go_ret
            refine ⟨ret_bool ?_, (hwr.out.alloc hwr.out.size _).trans (HB4.out.mono (by have := hwr.out.size; simp; omega))⟩
            rw [HE.out, H3.out, Bool.true_and]
            exact (List.all_eq_false.2 ⟨t, by rw [← HT.out]; exact List.getElem_mem hkz, by rw [HO.out]; exact Bool.false_ne_true⟩).symm
          | true =>
            have HO := Lib.hid hok
            clear hok
            go_wp2_with fail
            refine (ofSeries_is t true _ HSM.out HO.out).mono ?_
            rintro e w4 ⟨rfl, hb4⟩
            have HB4 := Lib.hid hb4
            clear hb4
            go_wp2
            go_roundw
            case rel => exact ⟨k + 1, by omega, by go_num, Lib.hid (all_take hkz HK.out (by rw [HT.out]; exact HO.out)), (hwr.out.alloc hwr.out.size _).trans (HB4.out.mono (by have := hwr.out.size; simp; omega))⟩
            case measure => simp [intOf]; omega
        · obtain rfl : k = n := by omega
          have hall : ts.all okT = true := by have := HK.out; rwa [List.take_of_length_le (by rw [HN.out]; exact Nat.le_refl _)] at this
          have HL := Lib.hid hall
          clear hall
          go_wp2
          go_ret
          exact ⟨ret_bool (by rw [HE.out, H3.out, HL.out]; rfl), hB⟩
  · have hgt : decide ((400 : Int) < (n : Int)) = true := decide_eq_true (by omega)
    rw [decide_eq_false h4, Bool.false_and] at hE
    have HE := Lib.hid hE
    clear hE
    go_enter Tryd.func24, Tryd.ntmps24
    go_wp2
    go_ret
    exact ⟨ret_bool HE.out.symm, (Below.refl _ w).alloc (Nat.le_refl _) _⟩
theorem iSeriesIn_is (a : Option Addr) (cap n : Nat) (ts : List Tm) (b : Bool) (w : World) (hs : IsTerms w a n ts) (hb : serB ts = b) :
    Calls Tryd.prog 24 #[.slice a n cap] w fun e w' => e = .returned (.bool b) ∧ Below w.heap.size w w' := by rw [← hb]; exact iSeriesIn_any a cap n ts w hs

end Go.Proofs.YtdhmicpoigoleabDoor

/- How great the coefficients of the series of a word get, and how many terms it has. -/

namespace Go.Proofs.YtdhmicpoigoleabDoor
open Go.RowKit

/-- The sum of the sizes of the coefficients of degree d; of those up to degree d. -/
def nrm (d : Nat) : List Tm → Nat
  | [] => 0
  | t :: r => (if t.s.size = d then t.c.natAbs else 0) + nrm d r
def cum (d : Nat) : List Tm → Nat
  | [] => 0
  | t :: r => (if t.s.size ≤ d then t.c.natAbs else 0) + cum d r
theorem nrm_append (d : Nat) (a b : List Tm) : nrm d (a ++ b) = nrm d a + nrm d b := by
  induction a with
  | nil => simp [nrm]
  | cons t r ih => rw [List.cons_append, nrm, nrm, ih]; omega
theorem nrm_nz (d : Nat) (t : Tm) : nrm d (nz t) = if t.s.size = d then t.c.natAbs else 0 := by
  unfold nz
  by_cases h : t.c = 0
  · rw [if_pos h, h]; simp [nrm]
  · rw [if_neg h]; simp [nrm]
theorem nrm_add (d : Nat) (t : Tm) : ∀ ts, nrm d (addT ts t) ≤ nrm d ts + if t.s.size = d then t.c.natAbs else 0
  | [] => by rw [addT, nrm_nz, nrm]; omega
  | x :: r => by
    rw [addT]
    by_cases h : lessW x.s t.s = true
    · rw [if_pos h, nrm, nrm]
      have := nrm_add d t r
      omega
    · rw [if_neg h]
      by_cases h2 : x.s = t.s
      · rw [if_pos h2, nrm_append, nrm_nz, nrm, h2]
        by_cases h3 : t.s.size = d
        · simp only [h3, if_true]; omega
        · simp only [h3, if_false]; omega
      · rw [if_neg h2, nrm_append, nrm_nz]; omega
theorem nrm_fold (d : Nat) : ∀ (ts acc : List Tm), nrm d (ts.foldl addT acc) ≤ nrm d acc + nrm d ts
  | [], acc => by simp [nrm]
  | t :: r, acc => by
    have h1 := nrm_fold d r (addT acc t)
    have h2 := nrm_add d t acc
    rw [List.foldl_cons, nrm]
    omega
theorem nrm_canon (d : Nat) (ts : List Tm) : nrm d (canonT ts) ≤ nrm d ts := by
  have h := nrm_fold d ts []
  rw [show nrm d [] = 0 from rfl, Nat.zero_add] at h
  exact h
theorem cum_zero : ∀ ts, cum 0 ts = nrm 0 ts
  | [] => rfl
  | t :: r => by rw [cum, nrm, cum_zero r]; simp only [Nat.le_zero_eq]
theorem cum_succ (d : Nat) : ∀ ts, cum (d + 1) ts = cum d ts + nrm (d + 1) ts
  | [] => rfl
  | t :: r => by
    rw [cum, cum, nrm, cum_succ d r]
    by_cases h : t.s.size ≤ d
    · rw [if_pos (by omega), if_pos h, if_neg (by omega)]; omega
    · by_cases h2 : t.s.size = d + 1
      · rw [if_pos (by omega), if_neg h, if_pos h2]; omega
      · rw [if_neg (by omega), if_neg h, if_neg h2]; omega
theorem cum_le (d : Nat) : ∀ {ts : List Tm} {t : Tm}, t ∈ ts → t.s.size ≤ d → t.c.natAbs ≤ cum d ts
  | u :: r, t, h, hd => by
    rw [cum]
    rcases List.mem_cons.1 h with rfl | h
    · rw [if_pos hd]; omega
    · have := cum_le d h hd; omega
theorem nrm_row (d : Nat) (t : Tm) {y : List Tm} (hy : ∀ e, nrm e y ≤ 1) : nrm d (rowS t y) ≤ if t.s.size ≤ d then t.c.natAbs else 0 := by
  have key : ∀ z : List Tm, nrm d (rowS t z) ≤ if t.s.size ≤ d then t.c.natAbs * nrm (d - t.s.size) z else 0 := by
    intro z
    induction z with
    | nil => simp [rowS, nrm]
    | cons u r ih =>
      have e : rowS t (u :: r) = (if short (pairS t u) = true then [pairS t u] else []) ++ rowS t r := by
        unfold rowS
        rw [List.map_cons, List.filter_cons]
        split <;> simp
      have h1 : nrm d (if short (pairS t u) = true then [pairS t u] else []) ≤ if t.s.size + u.s.size = d then t.c.natAbs * u.c.natAbs else 0 := by
        have hs : (pairS t u).s.size = t.s.size + u.s.size := by unfold pairS; exact ByteArray.size_append
        split
        · rw [nrm, nrm, hs]
          split
          · unfold pairS; rw [Int.natAbs_mul]; omega
          · omega
        · simp [nrm]
      rw [e, nrm_append, nrm]
      by_cases h : t.s.size ≤ d
      · rw [if_pos h] at ih ⊢
        rw [Nat.mul_add]
        have h2 : (if t.s.size + u.s.size = d then t.c.natAbs * u.c.natAbs else 0) ≤ t.c.natAbs * (if u.s.size = d - t.s.size then u.c.natAbs else 0) := by
          by_cases h3 : t.s.size + u.s.size = d
          · rw [if_pos h3, if_pos (by omega)]; exact Nat.le_refl _
          · rw [if_neg h3]; exact Nat.zero_le _
        omega
      · rw [if_neg h] at ih ⊢
        have h3 : ¬ t.s.size + u.s.size = d := by omega
        rw [if_neg h3] at h1
        omega
  have h := key y
  by_cases hd : t.s.size ≤ d
  · rw [if_pos hd] at h ⊢
    have := Nat.mul_le_mul_left t.c.natAbs (hy (d - t.s.size))
    omega
  · rw [if_neg hd] at h ⊢; exact h
theorem nrm_pairs (d : Nat) {y : List Tm} (hy : ∀ e, nrm e y ≤ 1) : ∀ x, nrm d (pairsS x y) ≤ cum d x
  | [] => by simp [pairsS, nrm]
  | t :: r => by
    have h1 := nrm_pairs d hy r
    have h2 := nrm_row d t hy
    have e : pairsS (t :: r) y = rowS t y ++ pairsS r y := by unfold pairsS rowS; rw [List.flatMap_cons]
    rw [e, nrm_append, cum]
    omega

/-- How many ways there are to choose: of degree 0 to 4. -/
def stepW (p : Nat × Nat × Nat × Nat × Nat) : Nat × Nat × Nat × Nat × Nat := (p.1, p.1 + p.2.1, p.1 + p.2.1 + p.2.2.1, p.1 + p.2.1 + p.2.2.1 + p.2.2.2.1, p.1 + p.2.1 + p.2.2.1 + p.2.2.2.1 + p.2.2.2.2)
def waysT : Nat → Nat × Nat × Nat × Nat × Nat
  | 0 => (1, 1, 1, 1, 1)
  | k + 1 => stepW (waysT k)
theorem ways_le {k n : Nat} (h : k ≤ n) : (waysT k).2.2.2.2 ≤ (waysT n).2.2.2.2 := by
  induction h with
  | refl => exact Nat.le_refl _
  | step _ ih => exact Nat.le_trans ih (by rw [waysT, stepW]; simp only []; omega)
theorem ways_max : (waysT 60).2.2.2.2 = 635376 := by decide +kernel
def WaysIn (k : Nat) (x : List Tm) : Prop := cum 0 x ≤ (waysT k).1 ∧ cum 1 x ≤ (waysT k).2.1 ∧ cum 2 x ≤ (waysT k).2.2.1 ∧ cum 3 x ≤ (waysT k).2.2.2.1 ∧ cum 4 x ≤ (waysT k).2.2.2.2
theorem ways_step {k : Nat} {x y : List Tm} (hy : ∀ e, nrm e y ≤ 1) (h : WaysIn k x) : WaysIn (k + 1) (canonT (pairsS x y)) := by
  obtain ⟨h0, h1, h2, h3, h4⟩ := h
  have hn : ∀ d, nrm d (canonT (pairsS x y)) ≤ cum d x := fun d => Nat.le_trans (nrm_canon d _) (nrm_pairs d hy x)
  have n0 := hn 0
  have n1 := hn 1
  have n2 := hn 2
  have n3 := hn 3
  have n4 := hn 4
  have e0 := cum_zero (canonT (pairsS x y))
  have e1 := cum_succ 0 (canonT (pairsS x y))
  have e2 := cum_succ 1 (canonT (pairsS x y))
  have e3 := cum_succ 2 (canonT (pairsS x y))
  have e4 := cum_succ 3 (canonT (pairsS x y))
  simp only [Nat.zero_add, Nat.reduceAdd] at e1 e2 e3 e4
  unfold WaysIn
  rw [waysT, stepW]
  simp only []
  omega
theorem ways_coef {k : Nat} {x : List Tm} (h : WaysIn k x) (hk : k ≤ 60) {t : Tm} (ht : t ∈ x) (hs : t.s.size ≤ 4) : -1000000 ≤ t.c ∧ t.c ≤ 1000000 := by
  have h1 := cum_le 4 ht hs
  have h2 := h.2.2.2.2
  have h3 := ways_le hk
  rw [ways_max] at h3
  omega

/-! ### How many terms -/
theorem nodup_len {α : Type} [BEq α] [LawfulBEq α] : ∀ (l m : List α), l.Nodup → (∀ x ∈ l, x ∈ m) → l.length ≤ m.length
  | [], _, _, _ => Nat.zero_le _
  | x :: r, m, h, hs => by
    obtain ⟨h1, h2⟩ := List.nodup_cons.1 h
    have hx := hs x (by simp)
    have := nodup_len r (m.erase x) h2 fun y hy => (List.mem_erase_of_ne (fun e => h1 (by rw [← e]; exact hy))).2 (hs y (by simp [hy]))
    rw [List.length_erase_of_mem hx] at this
    have : 0 < m.length := List.length_pos_of_mem hx
    rw [List.length_cons]; omega
def monosN : Nat → List (List UInt8)
  | 0 => [[]]
  | n + 1 => (monosN n).flatMap fun l => [97 :: l, 98 :: l, 99 :: l, 100 :: l]
theorem mem_monos : ∀ (l : List UInt8), l.all genB = true → l ∈ monosN l.length
  | [], _ => by simp [monosN]
  | c :: r, h => by
    rw [List.all_cons, Bool.and_eq_true] at h
    obtain ⟨hc, hr⟩ := h
    have ih := mem_monos r hr
    have h4 : c = 97 ∨ c = 98 ∨ c = 99 ∨ c = 100 := by
      unfold genB at hc
      simp only [Bool.and_eq_true, decide_eq_true_eq] at hc
      have : c.toNat = 97 ∨ c.toNat = 98 ∨ c.toNat = 99 ∨ c.toNat = 100 := by omega
      rcases this with h | h | h | h
      · exact .inl (UInt8.toNat_inj.1 h)
      · exact .inr (.inl (UInt8.toNat_inj.1 h))
      · exact .inr (.inr (.inl (UInt8.toNat_inj.1 h)))
      · exact .inr (.inr (.inr (UInt8.toNat_inj.1 h)))
    rw [List.length_cons, monosN]
    refine List.mem_flatMap.2 ⟨r, ih, ?_⟩
    rcases h4 with rfl | rfl | rfl | rfl <;> simp
def monosAll : List (List UInt8) := (List.range 5).flatMap monosN
theorem monosAll_len : monosAll.length = 341 := by decide +kernel
theorem mono_mem {s : ByteArray} (h : monoB s = true) : s.data.toList ∈ monosAll := by
  unfold monoB at h
  simp only [Bool.and_eq_true, decide_eq_true_eq] at h
  have hl : s.data.toList.length ≤ 4 := by simpa using h.2
  exact List.mem_flatMap.2 ⟨_, List.mem_range.2 (by omega), mem_monos _ h.1⟩
theorem canon_len341 {ts : List Tm} (hc : Canon ts) (h : ∀ t ∈ ts, monoB t.s = true) : ts.length ≤ 341 := by
  have := nodup_len (ts.map fun t => t.s.data.toList) monosAll (by
    rw [List.nodup_iff_pairwise_ne, List.pairwise_map]
    exact hc.1.imp fun hl e => lessW_ne hl (bytes_ext e)) (fun l hl => by
    obtain ⟨t, ht, rfl⟩ := List.mem_map.1 hl
    exact mono_mem (h t ht))
  rwa [List.length_map, monosAll_len] at this
theorem mono_append {a b : ByteArray} (ha : monoB a = true) (hb : monoB b = true) (h : (a ++ b).size ≤ 4) : monoB (a ++ b) = true := by
  unfold monoB at *
  simp only [Bool.and_eq_true, decide_eq_true_eq] at *
  refine ⟨?_, h⟩
  rw [append_toList, List.all_append, ha.1, hb.1]; rfl
theorem pairsS_mono {x y : List Tm} (hx : ∀ t ∈ x, monoB t.s = true) (hy : ∀ t ∈ y, monoB t.s = true) : ∀ t ∈ pairsS x y, monoB t.s = true := fun t ht => by
  obtain ⟨u, hu, ht⟩ := List.mem_flatMap.1 ht
  obtain ⟨h1, h2⟩ := List.mem_filter.1 ht
  obtain ⟨v, hv, rfl⟩ := List.mem_map.1 h1
  exact mono_append (hx u hu) (hy v hv) (of_decide_eq_true h2)

end Go.Proofs.YtdhmicpoigoleabDoor

/- The contracts of the model's powers of words. -/

namespace Go.Proofs.YtdhmicpoigoleabDoor
open Go.RowKit

theorem l6In_same (k lo hi : Int) (b : Bool) (w : World) (h : (decide (lo ≤ k) && decide (k ≤ hi)) = b) :
    Calls Tryd.prog 34 #[.int .i64 k, .int .i64 lo, .int .i64 hi] w fun e w' => e = .returned (.bool b) ∧ w = w' := by
  by_cases h1 : lo ≤ k
  · by_cases h2 : k ≤ hi
    · have H : Hid (b = true) := Lib.hid (by rw [← h, decide_eq_true h1, decide_eq_true h2]; rfl)
      clear h
      go_enter Tryd.func34, Tryd.ntmps34
      go_wp2
      go_ret
      exact ⟨ret_bool H.out.symm, rfl⟩
    · have H : Hid (b = false) := Lib.hid (by rw [← h, decide_eq_false h2, Bool.and_false])
      clear h
      have h3 : hi < k := by omega
      go_enter Tryd.func34, Tryd.ntmps34
      go_wp2
      go_ret
      exact ⟨ret_bool H.out.symm, rfl⟩
  · have H : Hid (b = false) := Lib.hid (by rw [← h, decide_eq_false h1]; rfl)
    clear h
    have h3 : k < lo := by omega
    go_enter Tryd.func34, Tryd.ntmps34
    go_wp2
    go_ret
    exact ⟨ret_bool H.out.symm, rfl⟩

set_option maxRecDepth 100000 in
set_option maxHeartbeats 1000000 in
theorem many_any (s : ByteArray) (N : Nat) (w : World) (hN : N ≤ 60) (hs : s.size ≤ 60) :
    Calls Tryd.prog 54 #[.string s, .int .i64 N] w fun e w' => ∃ t, e = .returned (.string t) ∧ t.size ≤ 3600 ∧ Hid (t.data.toList = repL N s.data.toList) ∧ w = w' := by
  go_enter Tryd.func54, Tryd.ntmps54
  go_wp2
  go_loop [0, 1, 5] (fun x i o => ∃ (sx so : ByteArray) (n a b : Nat), x = .string sx ∧ i = .int .i64 n ∧ o = .string so ∧ n ≤ 60 ∧ sx.size ≤ 7200 ∧ so.size ≤ 3600 ∧
      Hid (sx.data.toList = repL b s.data.toList ∧ so.data.toList = repL a s.data.toList ∧ a + n * b = N ∧ b ≤ 120 ∧ a ≤ 60)) (fun _ i _ => (intOf i).toNat)
  case atStart => exact ⟨s, ByteArray.empty, N, 0, 1, rfl, rfl, rfl, hN, by omega, by simp, Lib.hid ⟨(repL_one _).symm, rfl, by omega, by omega, by omega⟩⟩
  case round =>
    obtain ⟨sx, so, n, a, b, rfl, rfl, rfl, hn, hsx, hso, HC⟩ := hrel
    have hstep : ∀ (s1 s2 : ByteArray) (p q : Nat), s1.data.toList = repL p s.data.toList → s2.data.toList = repL q s.data.toList → (s1 ++ s2).data.toList = repL (p + q) s.data.toList := fun s1 s2 p q h1 h2 => by
      rw [append_toList, h1, h2, repL_add]
    have hsz : ∀ (s1 : ByteArray) (p : Nat), s1.data.toList = repL p s.data.toList → s1.size ≤ p * 60 := fun s1 p h1 => by
      have : s1.data.toList.length = p * s.data.toList.length := by rw [h1, repL_len]
      have h2 : s1.size = p * s.size := by simpa using this
      rw [h2]; exact Nat.mul_le_mul_left _ hs
    by_cases h0 : 0 < n
    · obtain ⟨e1, e2, e3, e4, e5⟩ := HC.out
      have hbN : b ≤ 60 := by
        have : 1 * b ≤ n * b := Nat.mul_le_mul_right _ h0
        omega
      have HS1 : Hid ((sx ++ sx).data.toList = repL (b + b) s.data.toList) := hstep _ _ _ _ e1 e1
      have hz1 : (sx ++ sx).size ≤ 7200 := by have := hsz _ _ HS1.out; omega
      have hdiv : n / 2 + n / 2 + n % 2 = n := by omega
      have hmul : n * b = (n / 2) * (b + b) + (n % 2) * b := by
        conv => lhs; rw [← hdiv]
        rw [Nat.add_mul, Nat.add_mul, Nat.mul_add]
      by_cases hodd : n % 2 = 1
      · have HS2 : Hid ((so ++ sx).data.toList = repL (a + b) s.data.toList) := hstep _ _ _ _ e2 e1
        rw [hodd] at hmul
        have hab : a + b ≤ 60 := by omega
        have hz2 : (so ++ sx).size ≤ 3600 := by have := hsz _ _ HS2.out; omega
        have HX : Hid (a + b + n / 2 * (b + b) = N ∧ b + b ≤ 120 ∧ a + b ≤ 60) := Lib.hid ⟨by omega, by omega, hab⟩
        clear e1 e2 e3 e4 e5 hstep hsz hdiv hmul
        go_wp2
        go_round
        case rel => exact ⟨_, _, n / 2, a + b, b + b, rfl, by go_num, rfl, by omega, hz1, hz2, Lib.hid ⟨HS1.out, HS2.out, HX.out⟩⟩
        case measure => simp [intOf]; omega
      · have hev : n % 2 = 0 := by omega
        rw [hev] at hmul
        have HX : Hid (a + n / 2 * (b + b) = N ∧ b + b ≤ 120 ∧ a ≤ 60) := Lib.hid ⟨by omega, by omega, e5⟩
        have HE2 := Lib.hid e2
        clear e1 e2 e3 e4 e5 hstep hsz hdiv hmul
        go_wp2
        go_round
        case rel => exact ⟨_, _, n / 2, a, b + b, rfl, by go_num, rfl, by omega, hz1, hso, Lib.hid ⟨HS1.out, HE2.out, HX.out⟩⟩
        case measure => simp [intOf]; omega
    · have hn0 : n ≤ 0 := by omega
      clear hstep hsz
      go_wp2
      go_ret
      refine ⟨so, rfl, hso, Lib.hid ?_, rfl⟩
      obtain ⟨e1, e2, e3, e4, e5⟩ := HC.out
      have : a = N := by
        have : n = 0 := by omega
        subst this; omega
      rw [e2, this]

theorem many_int (s : ByteArray) (k : Int) (N : Nat) (w : World) (hk : k = (N : Int)) (hN : N ≤ 60) (hs : s.size ≤ 60) :
    Calls Tryd.prog 54 #[.string s, .int .i64 k] w fun e w' => ∃ t, e = .returned (.string t) ∧ t.size ≤ 3600 ∧ Hid (t.data.toList = repL N s.data.toList) ∧ w = w' := by
  subst hk; exact many_any s N w hN hs

end Go.Proofs.YtdhmicpoigoleabDoor

/- The contracts of slices.Grow and slices.Concat at terms. -/

namespace Go.Proofs.YtdhmicpoigoleabDoor
open Go.RowKit Go.Shelf

theorem ownsRow_low {W : World} {base : Nat} {e : TypeId} {size : Nat} {v : Value} {n : Nat} {xs : List Value} (h : W.ownsRow base e size v n xs) : ∀ j, v.ownBlock = some j → base ≤ j := fun j ej => (h.lt j ej).1

/-- A slice of terms that may be nil. -/
def PartT (w : World) (v : Value) (ts : List Tm) : Prop := (v = .slice none 0 0 ∧ ts = []) ∨ ∃ x cap, v = .slice (some x) ts.length cap ∧ ∀ j u, (termsV ts)[j]? = some u → w.cell? (x.add j) = some u ∧ x.block < w.heap.size
theorem PartT.below {w w' : World} {v : Value} {ts : List Tm} (h : PartT w v ts) (hb : Below w.heap.size w w') : PartT w' v ts := by
  rcases h with h | ⟨x, cap, e, h⟩
  · exact .inl h
  · exact .inr ⟨x, cap, e, fun j u hu => by
      obtain ⟨h1, h2⟩ := h j u hu
      exact ⟨(hb.cell (p := x.add j) (by rw [addr_add_block]; exact h2)).trans h1, Nat.lt_of_lt_of_le h2 hb.size⟩⟩
theorem partT_of {w : World} {ad : Addr} {n cap : Nat} {ts : List Tm} (h : IsTerms w (some ad) n ts) : PartT w (.slice (some ad) n cap) ts := by
  refine .inr ⟨ad, cap, by rw [h.len], fun j u hu => ?_⟩
  rcases Nat.eq_zero_or_pos n with h0 | h0
  · have : ts = [] := List.length_eq_zero_iff.1 (h.len.trans h0)
    subst this
    simp [termsV] at hu
  · obtain ⟨z, e, h2⟩ := h.at_ h0
    cases e
    exact ⟨h2.cells j u hu, h2.1⟩
theorem partT_own {base : Nat} {w : World} {v : Value} {ts : List Tm} (h : OwnT base w v ts) : PartT w v ts := by
  rcases h.2 with ⟨rfl, h0⟩ | ⟨g, cap, cur, rfl, _, hg, _⟩
  · exact .inl ⟨rfl, List.length_eq_zero_iff.1 h0⟩
  · exact .inr ⟨_, cap, rfl, fun j u hu => ⟨(termsAt_of_owns rfl h).cells j u hu, (ownsRow_cap h).2.2.2⟩⟩
theorem PartT.len {w : World} {v : Value} {ts : List Tm} (h : PartT w v ts) : ∃ a cap, v = .slice a ts.length cap := by
  rcases h with ⟨rfl, rfl⟩ | ⟨x, cap, e, _⟩
  · exact ⟨_, _, rfl⟩
  · exact ⟨_, _, e⟩

def lens (ps : List (Value × List Tm)) : Nat := (ps.map fun p => p.2.length).sum
def flatT (ps : List (Value × List Tm)) : List Tm := (ps.map Prod.snd).flatten
theorem lens_succ (ps : List (Value × List Tm)) (k : Nat) (h : k < ps.length) : lens (ps.take (k + 1)) = lens (ps.take k) + ps[k].2.length := by
  unfold lens
  rw [List.take_succ_eq_append_getElem h, List.map_append, List.sum_append]; simp
theorem flatT_succ (ps : List (Value × List Tm)) (k : Nat) (h : k < ps.length) : flatT (ps.take (k + 1)) = flatT (ps.take k) ++ ps[k].2 := by
  unfold flatT
  rw [List.take_succ_eq_append_getElem h, List.map_append, List.flatten_append]; simp
theorem flatT_len (ps : List (Value × List Tm)) : (flatT ps).length = lens ps := by
  unfold flatT lens
  rw [List.length_flatten, List.map_map]; rfl
theorem lens_take (ps : List (Value × List Tm)) (k : Nat) : lens (ps.take k) ≤ lens ps := by
  have h : lens ps = lens (ps.take k) + lens (ps.drop k) := by
    conv => lhs; rw [← List.take_append_drop k ps]
    unfold lens
    rw [List.map_append, List.sum_append]
  omega

end Go.Proofs.YtdhmicpoigoleabDoor

/- The contracts of the model's 'l4Letter' and 'SeriesOf'. -/

namespace Go.Proofs.YtdhmicpoigoleabDoor
open Go.RowKit Go.Shelf

def letX (c : UInt8) : List UInt8 := [UInt8.ofNat (97 + idxB c)]
/-- The sign of a power of an inverse letter. -/
def altZ (i : Nat) : Int := if i % 2 = 0 then 1 else -1
def powT (c : UInt8) (i : Nat) : Tm := ⟨altZ i, bstr (repL i (letX c))⟩
/-- The series of a letter. -/
def letS (c : UInt8) : List Tm := if 97 ≤ c.toNat then [⟨1, { data := #[] }⟩, ⟨1, bstr (letX c)⟩] else (List.range 5).map (powT c)
theorem let_cases {P : UInt8 → Prop} (h : ∀ n : Fin 8, P (UInt8.ofNat (if n.val < 4 then 97 + n.val else 61 + n.val))) {c : UInt8} (hc : letB c = true) : P c := by
  have h2 := (letB_iff c).1 hc
  have : ∃ n : Fin 8, c = UInt8.ofNat (if n.val < 4 then 97 + n.val else 61 + n.val) := by
    rcases h2 with h2 | h2
    · exact ⟨⟨c.toNat - 97, by omega⟩, UInt8.toNat_inj.1 (by rw [if_pos (by show c.toNat - 97 < 4; omega)]; rw [UInt8.toNat_ofNat', Nat.mod_eq_of_lt (by show 97 + (c.toNat - 97) < _; omega)]; show c.toNat = 97 + (c.toNat - 97); omega)⟩
    · exact ⟨⟨c.toNat - 61, by omega⟩, UInt8.toNat_inj.1 (by rw [if_neg (by show ¬ c.toNat - 61 < 4; omega)]; rw [UInt8.toNat_ofNat', Nat.mod_eq_of_lt (by show 61 + (c.toNat - 61) < _; omega)]; show c.toNat = 61 + (c.toNat - 61); omega)⟩
  obtain ⟨n, rfl⟩ := this
  exact h n
theorem letS_facts : ∀ n : Fin 8, (letS (UInt8.ofNat (if n.val < 4 then 97 + n.val else 61 + n.val))).all (fun t => monoB t.s && (inR (-1) 1 t.c)) = true ∧ (letS (UInt8.ofNat (if n.val < 4 then 97 + n.val else 61 + n.val))).length ≤ 5 ∧
    (List.range 5).all (fun e => decide (nrm e (letS (UInt8.ofNat (if n.val < 4 then 97 + n.val else 61 + n.val))) ≤ 1)) = true := by decide +kernel
theorem nrm_far {d : Nat} : ∀ {ts : List Tm}, (∀ t ∈ ts, t.s.size ≠ d) → nrm d ts = 0
  | [], _ => rfl
  | t :: r, h => by rw [nrm, if_neg (h t (by simp)), nrm_far fun u hu => h u (by simp [hu])]
theorem letS_ok {c : UInt8} (hc : letB c = true) : (∀ t ∈ letS c, monoB t.s = true ∧ -1 ≤ t.c ∧ t.c ≤ 1) ∧ (letS c).length ≤ 5 ∧ ∀ e, nrm e (letS c) ≤ 1 := by
  obtain ⟨h1, h2, h3⟩ := let_cases (P := fun c => (letS c).all (fun t => monoB t.s && (inR (-1) 1 t.c)) = true ∧ (letS c).length ≤ 5 ∧ (List.range 5).all (fun e => decide (nrm e (letS c) ≤ 1)) = true) letS_facts hc
  have h4 : ∀ t ∈ letS c, monoB t.s = true ∧ -1 ≤ t.c ∧ t.c ≤ 1 := fun t ht => by
    have := List.all_eq_true.1 h1 t ht
    unfold inR at this
    simp only [Bool.and_eq_true, decide_eq_true_eq] at this
    exact this
  refine ⟨h4, h2, fun e => ?_⟩
  by_cases he : e < 5
  · exact of_decide_eq_true (List.all_eq_true.1 h3 e (List.mem_range.2 he))
  · rw [nrm_far fun t ht => by have := mono_size (h4 t ht).1; omega]; omega
theorem letS_ser {c : UInt8} (hc : letB c = true) : SerL (letS c) := by
  obtain ⟨h1, h2, _⟩ := letS_ok hc
  exact ⟨by omega, fun t ht => by have := h1 t ht; have := mono_size this.1; omega⟩

/-- The series of a word. -/
def oneT : List Tm := [⟨1, { data := #[] }⟩]
def serW (l : List UInt8) : List Tm := l.foldl (fun out c => canonT (pairsS out (letS c))) oneT
theorem serW_snoc (l : List UInt8) (c : UInt8) : serW (l ++ [c]) = canonT (pairsS (serW l) (letS c)) := by unfold serW; rw [List.foldl_append]; rfl
structure SerOK (k : Nat) (x : List Tm) : Prop where
  ways : WaysIn k x
  canon : Canon x
  mono : ∀ t ∈ x, monoB t.s = true
theorem serOK_one : SerOK 0 oneT :=
  ⟨by unfold WaysIn; decide, ⟨by simp [oneT], fun t ht => by rw [List.mem_singleton.1 ht]; exact Int.one_ne_zero⟩, fun t ht => by rw [List.mem_singleton.1 ht]; decide⟩
theorem SerOK.step {k : Nat} {x : List Tm} {c : UInt8} (h : SerOK k x) (hc : letB c = true) : SerOK (k + 1) (canonT (pairsS x (letS c))) :=
  ⟨ways_step (letS_ok hc).2.2 h.ways, canon_of _, fun t ht => by
    obtain ⟨v, hv, e⟩ := canon_words ht
    rw [← e]
    exact pairsS_mono h.mono (fun u hu => ((letS_ok hc).1 u hu).1) v hv⟩
theorem SerOK.ser {k : Nat} {x : List Tm} (h : SerOK k x) (hk : k ≤ 60) : SerL x :=
  ⟨by have := canon_len341 h.canon h.mono; omega, fun t ht => by
    have h1 := mono_size (h.mono t ht)
    exact ⟨h1, ways_coef h.ways hk ht h1⟩⟩
theorem SerOK.told {k : Nat} {x : List Tm} (h : SerOK k x) (hk : k ≤ 60) : twS x = true := by
  obtain ⟨h1, h2⟩ := h.ser hk
  unfold twS inR
  rw [decide_eq_true h1, Bool.true_and]
  refine List.all_eq_true.2 fun t ht => ?_
  have := h2 t ht
  rw [h.mono t ht, decide_eq_true this.2.1, decide_eq_true this.2.2]; rfl
theorem serW_ok : ∀ (l : List UInt8), letL l = true → SerOK l.length (serW l) := by
  intro l
  generalize hn : l.length = n
  induction n generalizing l with
  | zero => intro _; rw [List.length_eq_zero_iff.1 hn]; exact serOK_one
  | succ n ih =>
    intro hl
    obtain ⟨p, c, rfl⟩ := last_split l (by omega)
    rw [letL_append, Bool.and_eq_true] at hl
    rw [serW_snoc]
    have hp : p.length = n := by rw [List.length_append] at hn; simp at hn; exact hn
    exact (ih p hp hl.1).step (by have := hl.2; simp [letL] at this; exact this)

theorem isTerms_ser {w : World} {ad : Option Addr} {n : Nat} {x : List Tm} (h : IsTerms w ad n x) : x.length = n := h.len

set_option maxRecDepth 100000 in
set_option maxHeartbeats 4000000 in
theorem l4Letter_any (c : UInt8) (w : World) (hc : letB c = true) :
    Calls Tryd.prog 39 #[.int .u8 (c.toNat : Int)] w fun e w' => (∃ v, e = .returned v ∧ OwnTerms w.heap.size w' v (letS c)) ∧ Below w.heap.size w w' := by
  obtain ⟨i0, hi, hz0, hz1, hz2⟩ := info_parts infoTerm
  obtain ⟨k, hk⟩ : ∃ k, idxB c = k := ⟨_, rfl⟩
  have hk4 : k < 4 := by rw [← hk]; exact idxB_lt c hc
  have hgn : ((UInt8.ofNat (97 + k)).toNat : Int) = 97 + (k : Int) := by rw [UInt8.toNat_ofNat', Nat.mod_eq_of_lt (by omega)]; omega
  have hr0 : 0 ≤ 97 + (k : Int) := by omega
  have hr1 : 97 + (k : Int) ≤ 255 := by omega
  obtain ⟨V, hV⟩ : ∃ V, w.alloc (.cells #[.int .i64 1, .string { data := #[] }] 48) = V := ⟨_, rfl⟩
  have hbV : Below w.heap.size w V := by rw [← hV]; exact (Below.refl _ _).alloc (Nat.le_refl _) _
  have hoV : V.ownsRow w.heap.size TI 2 (.slice (some ⟨w.heap.size, 0, none⟩) 1 1) 1 (termsV oneT) := by
    rw [← hV]
    exact ⟨rfl, .inr ⟨_, 1, #[.int .i64 1, .string { data := #[] }], rfl, Nat.le_refl _, heap_alloc_new w _, Nat.le_refl _, by decide, rfl, rfl⟩⟩
  have hzV : V.heap.size = w.heap.size + 1 := by rw [← hV]; simp
  obtain ⟨gx, hgx⟩ : ∃ gx, bstr (letX c) = gx := ⟨_, rfl⟩
  have hconv : (convert 22 9 (.slice (some ⟨V.heap.size, 0, none⟩) 1 1)).run Tryd.prog (V.alloc (.cells #[.int .u8 (97 + (k : Int))] 5)) = .ok (.string gx) (V.alloc (.cells #[.int .u8 (97 + (k : Int))] 5)) := by
    rw [← hgx]
    have := run_convert_bytes_back (P := Tryd.prog) (V.alloc (.cells #[.int .u8 (97 + (k : Int))] 5)) 22 9 5 ⟨V.heap.size, 0, none⟩ 1 (letX c) Tryd.underlying22 Tryd.underlying5 Tryd.underlying9 (fun j hj => by
      have hj0 : j = 0 := by simp [letX] at hj; exact hj
      subst hj0
      show (V.alloc _).cell? ((⟨V.heap.size, 0, none⟩ : Addr).add 0) = some (.int .u8 ((UInt8.ofNat (97 + idxB c)).toNat : Int))
      rw [hk, hgn]
      exact cell_one_new _ _ _ 0 _ rfl)
    exact this
  have hgs : gx.size = 1 := by rw [← hgx]; rfl
  have HOV := Lib.hid hoV
  have HBV := Lib.hid hbV
  have HV := Lib.hid hV
  have HK := Lib.hid hk
  have HC := Lib.hid hc
  have HGX := Lib.hid hgx
  have HZV := Lib.hid hzV
  clear hoV hbV hV hk hc hgx hgn hzV
  go_enter Tryd.func39, Tryd.ntmps39
  go_wp2_with fail
  rw [HV.out]
  refine (sIndex_any _ _ HC.out).mono ?_
  rw [HK.out]
  rintro e w2 ⟨rfl, rfl⟩
  by_cases h97 : 97 ≤ c.toNat
  · have hls : letS c = oneT ++ [⟨1, gx⟩] := by unfold letS; rw [if_pos h97, HGX.out]; rfl
    have hnb : ((V.alloc (.cells #[.int .u8 (97 + (k : Int))] 5)).alloc (.cells #[.int .i64 1, .string gx] TI)).heap[V.heap.size + 1]? = some (.cells #[.int .i64 1, .string gx] TI (0, 0)) := by
      have h := heap_alloc_new (V.alloc (.cells #[.int .u8 (97 + (k : Int))] 5)) (.cells #[.int .i64 1, .string gx] TI)
      rw [World.size_alloc] at h
      exact h
    have HNB := Lib.hid hnb
    have HLS := Lib.hid hls
    clear hls hnb
    go_wp2_with (at_builtin; refine wpList_append_lies _ rfl _ _ _ rfl w.heap.size TI i0 _ 2 24 Tryd.underlying23 hi hz0 hz1 hz2 rfl (by omega) (.slice (some ⟨w.heap.size, 0, none⟩) 1 1) 1 (termsV oneT) rfl ((HOV.out.alloc _).alloc _) ⟨V.heap.size + 1, 0, none⟩ 1 1 [.int .i64 1, .string gx] rfl rfl (World.news_of_block (cs := #[.int .i64 1, .string gx]) (t := TI) (fr := (0, 0)) HNB.out) (by simp [Value.oneCell']) (by omega) (by unfold maxLen; omega) (by omega) (by have := HZV.out; simp; omega) (V.heap.size + 2) (by simp) ?_; intro gg cap1 w7 hown7 hgrow7 hat hlt7)
    have hB7 : Below w.heap.size w w7 := HBV.out.trans ((((Below.refl w.heap.size V).alloc HBV.out.size _).alloc (by have := HBV.out.size; simp; omega) _).grown hgrow7 (by have := HBV.out.size; simp; omega) (fun j e => by simp [Value.ownBlock] at e; omega))
    have HO7 := Lib.hid hown7
    clear hown7 hgrow7 hat hlt7
    go_wp2
    go_ret
    refine ⟨⟨_, rfl, gg, cap1, ?_, ?_⟩, hB7⟩
    · rw [HLS.out]; rfl
    · rw [HLS.out, termsV_append]
      exact HO7.out
  · have hls : letS c = (List.range 5).map (powT c) := by unfold letS; rw [if_neg h97]
    have HLS := Lib.hid hls
    have hbW : Below w.heap.size w (V.alloc (.cells #[.int .u8 (97 + (k : Int))] 5)) := HBV.out.alloc HBV.out.size _
    have hoW := HOV.out.alloc (.cells #[.int .u8 (97 + (k : Int))] 5)
    have HOW : Hid (OwnT w.heap.size (V.alloc (.cells #[.int .u8 (97 + (k : Int))] 5)) (.slice (some ⟨w.heap.size, 0, none⟩) 1 1) ((List.range (0 + 1)).map (powT c))) := Lib.hid hoW
    have HBW := Lib.hid hbW
    clear hls hbW hoW
    go_wp2
    go_loopw [3, 5, 6] (fun v s i wr => ∃ (j : Nat) (z : Int), j ≤ 4 ∧ i = .int .i64 ((j + 1 : Nat) : Int) ∧ s = .int .i64 z ∧ (-1 ≤ z ∧ z ≤ 1) ∧ Hid (z = altZ (j + 1)) ∧ Hid (OwnT w.heap.size wr v ((List.range (j + 1)).map (powT c))) ∧ Below w.heap.size w wr) (fun _ _ i _ => 5 - (intOf i).toNat)
    case atStart => exact ⟨0, -1, by omega, rfl, rfl, by omega, Lib.hid rfl, HOW, HBW.out⟩
    case round =>
      obtain ⟨j, z, hj, rfl, rfl, ⟨hz1', hz2'⟩, HZ, HO, hB⟩ := hrel
      by_cases hlt : j < 4
      · have hdl : decide ((j : Int) + 1 ≤ 4) = true := decide_eq_true (by omega)
        have hle : (j : Int) + 1 ≤ 4 := by omega
        go_wp2_with fail
        refine (many_int gx ((j : Int) + 1) (j + 1) _ (by omega) (by omega) (by omega)).mono ?_
        rintro e w3 ⟨x, rfl, hxs, hx, rfl⟩
        have HX := hx
        have hown := HO.out
        unfold OwnT at hown
        rw [List.length_map, List.length_range] at hown
        have HOW2 := Lib.hid hown
        have hbs := hB.size
        clear hown hx
        go_wp2_with (at_builtin; refine wpList_append_lies _ rfl _ _ _ rfl w.heap.size TI i0 _ 2 24 Tryd.underlying23 hi hz0 hz1 hz2 rfl (by omega) u3 (j + 1) (termsV ((List.range (j + 1)).map (powT c))) rfl (HOW2.out.alloc _) ⟨wr.heap.size, 0, none⟩ 1 1 [.int .i64 z, .string x] rfl rfl (World.news_of_block (cs := #[.int .i64 z, .string x]) (t := TI) (fr := (0, 0)) (heap_alloc_new wr _)) (by simp [Value.oneCell']) (by omega) (by unfold maxLen; omega) (by omega) (by simp; omega) (wr.heap.size + 1) (by simp) ?_; intro gg cap1 w7 hown7 hgrow7 hat hlt7)
        have hB7 : Below w.heap.size w w7 := hB.trans (((Below.refl w.heap.size wr).alloc hbs _).grown hgrow7 (by simp; omega) (ownsRow_low HOW2.out))
        have HO7 := Lib.hid hown7
        clear hown7 hgrow7 hat hlt7
        go_wp2
        go_roundw
        case rel =>
          refine ⟨j + 1, -z, by omega, by go_num, by go_num, by omega, Lib.hid ?_, Lib.hid ?_, hB7⟩
          · rw [HZ.out]; unfold altZ; split <;> split <;> omega
          · have hp : powT c (j + 1) = ⟨z, x⟩ := by
              unfold powT
              rw [← HZ.out]
              have : bstr (repL (j + 1) (letX c)) = x := bytes_ext (by rw [bstr_toList, HX.out, ← HGX.out]; rfl)
              rw [this]
            unfold OwnT
            rw [List.length_map, List.length_range, List.range_succ, List.map_append, termsV_append, List.map_cons, List.map_nil, hp]
            exact HO7.out
        case measure => simp [intOf]; omega
      · obtain rfl : j = 4 := by omega
        have hown := HO.out
        rcases hown.2 with ⟨_, h0⟩ | ⟨g, cap, cur, rfl, _⟩
        · simp at h0
        · have HOW3 := Lib.hid hown
          clear hown
          go_wp2
          go_ret
          refine ⟨⟨_, rfl, g, cap, ?_, ?_⟩, hB⟩
          · rw [HLS.out]; first | rfl | simp
          · rw [HLS.out]; exact HOW3.out

theorem acc_ser {base : Nat} {w : World} {v : Value} {x : List Tm} {N : Nat} {B : Int} (h : Acc base w v x N B) (hs : SerL x) : ∃ g cap, v = .slice (some ⟨g, 0, none⟩) x.length cap ∧ IsTerms w (some ⟨g, 0, none⟩) x.length x := by
  obtain ⟨g, cap, rfl, h1, h2, h3, h4⟩ := h.own.form
  exact ⟨g, cap, rfl, rfl, by have := hs.1; unfold maxLen; omega, fun _ => ⟨_, rfl, h1⟩, fun t ht => by have := hs.2 t ht; unfold maxLen; omega⟩
theorem own_ser {base : Nat} {w : World} {v : Value} {x : List Tm} (h : OwnTerms base w v x) (hs : SerL x) : ∃ g cap, v = .slice (some ⟨g, 0, none⟩) x.length cap ∧ IsTerms w (some ⟨g, 0, none⟩) x.length x := by
  obtain ⟨g, cap, rfl, h1, h2, h3, h4⟩ := h.form
  exact ⟨g, cap, rfl, rfl, by have := hs.1; unfold maxLen; omega, fun _ => ⟨_, rfl, h1⟩, fun t ht => by have := hs.2 t ht; unfold maxLen; omega⟩
theorem serL_small {x : List Tm} (h : SerL x) : SmallT x := ⟨by have := h.1; unfold maxLen; omega, fun t ht => by have := h.2 t ht; unfold maxLen; omega⟩

set_option maxRecDepth 100000 in
set_option maxHeartbeats 2000000 in
theorem sSeriesOf_no (s : ByteArray) (w : World) (hs : s.size ≤ maxLen) (hb : wordB s.data.toList = false) :
    Calls Tryd.prog 21 #[.string s] w (STold w false []) := by
  have HW := Lib.hid hb
  clear hb
  go_enter Tryd.func21, Tryd.ntmps21
  go_wp2_with fail
  refine (sWordIn_is _ false _ hs HW.out).mono ?_
  rintro e w1 ⟨rfl, hb1⟩
  have HB1 := Lib.hid hb1
  clear hb1
  go_wp2
  go_ret2
  exact ⟨⟨_, rfl, (ownEmpty w1).mono HB1.out.size⟩, HB1.out.alloc HB1.out.size _⟩

set_option maxRecDepth 100000 in
set_option maxHeartbeats 4000000 in
theorem sSeriesOf_yes (s : ByteArray) (w : World) (hs : s.size ≤ maxLen) (hb : wordB s.data.toList = true) :
    Calls Tryd.prog 21 #[.string s] w (STold w true (serW s.data.toList)) := by
  obtain ⟨hw1, hw2, _⟩ := (wordB_iff _).1 hb
  have hs60 : s.size ≤ 60 := by simpa using hw1
  have HW := Lib.hid hb
  have HL := Lib.hid hw2
  have hok := serW_ok _ hw2
  have HTold : Hid (serB (serW s.data.toList) = true) := Lib.hid (by rw [serB_canon hok.canon]; exact hok.told hw1)
  have HSm := Lib.hid (serL_small (hok.ser hw1))
  clear hb hw1 hw2 hok
  go_enter Tryd.func21, Tryd.ntmps21
  go_wp2_with fail
  refine (sWordIn_is _ true _ hs HW.out).mono ?_
  rintro e w1 ⟨rfl, hb1⟩
  have HB1 := Lib.hid hb1
  have hone : OwnTerms w1.heap.size (w1.alloc (.cells #[.int .i64 1, .string { data := #[] }] 48)) (.slice (some ⟨w1.heap.size, 0, none⟩) 1 1) oneT :=
    ⟨w1.heap.size, 1, rfl, ⟨rfl, .inr ⟨_, 1, #[.int .i64 1, .string { data := #[] }], rfl, Nat.le_refl _, heap_alloc_new w1 _, Nat.le_refl _, by decide, rfl, rfl⟩⟩⟩
  have HOne := Lib.hid (hone.mono HB1.out.size)
  clear hb1 hone
  go_wp2
  go_loopw [4, 5] (fun v i wr => ∃ k : Nat, k ≤ s.size ∧ i = .int .i64 k ∧ Hid (OwnTerms w.heap.size wr v (serW (s.data.toList.take k))) ∧ Below w.heap.size w wr) (fun _ i _ => s.size - (intOf i).toNat)
  case atStart => exact ⟨0, Nat.zero_le _, rfl, HOne, HB1.out.alloc HB1.out.size _⟩
  case round =>
    obtain ⟨k, hk, rfl, HA, hB⟩ := hrel
    by_cases hlt : k < s.size
    · have hl : k < s.data.toList.length := by simpa using hlt
      have hlet : letB s[k] = true := letL_get _ HL.out k hl
      have hlk : letL (s.data.toList.take k) = true := letL_of_mem _ _ HL.out (fun _ h => List.mem_of_mem_take h)
      have hok := serW_ok _ hlk
      have hser := hok.ser (by rw [List.length_take]; omega)
      have hsucc : serW (s.data.toList.take (k + 1)) = canonT (pairsS (serW (s.data.toList.take k)) (letS s[k])) := by rw [take_snoc _ k hl, serW_snoc]; rfl
      have hlk1 : letL (s.data.toList.take (k + 1)) = true := letL_of_mem _ _ HL.out (fun _ h => List.mem_of_mem_take h)
      have hser1 := (serW_ok _ hlk1).ser (by rw [List.length_take]; omega)
      obtain ⟨ov, hov⟩ : ∃ x, serW (s.data.toList.take k) = x := ⟨_, rfl⟩
      rw [hov] at hser hsucc HA
      obtain ⟨g, cap, rfl, hI⟩ := own_ser HA.out hser
      obtain ⟨n, hn⟩ : ∃ n, ov.length = n := ⟨_, rfl⟩
      rw [hn] at hI ⊢
      have HI := Lib.hid hI
      have HLet := Lib.hid hlet
      have HSer := Lib.hid hser
      have HSu := Lib.hid hsucc
      have HSL := Lib.hid (letS_ser hlet)
      have hbs := hB.size
      clear hI hlet hlk hok hser hsucc hlk1 hser1 hov hn
      go_wp2_with fail
      refine (l4Letter_any _ _ HLet.out).mono ?_
      rintro e w2 ⟨⟨v2, rfl, ho2⟩, hb2⟩
      obtain ⟨g2, cap2, rfl, hI2⟩ := own_ser ho2 HSL.out
      obtain ⟨m, hm⟩ : ∃ m, (letS s[k]).length = m := ⟨_, rfl⟩
      rw [hm] at hI2 ⊢
      have HI2 := Lib.hid hI2
      have HB2 := Lib.hid hb2
      clear ho2 hI2 hb2 hm
      go_wp2_with fail
      refine (l4Times_any _ _ cap cap2 n m ov (letS s[k]) _ (HI.out.below HB2.out) HI2.out HSer.out HSL.out).mono ?_
      rintro e w3 ⟨⟨v3, rfl, ho3⟩, hb3⟩
      have HO3 := Lib.hid ho3.own
      have hB3 : Below w.heap.size w w3 := (hB.trans (HB2.out.mono hbs)).trans (hb3.mono (Nat.le_trans hbs HB2.out.size))
      have hs23 := HB2.out.size
      clear ho3 hb3
      go_wp2
      go_roundw
      case rel =>
        refine ⟨k + 1, by omega, by go_num, Lib.hid ?_, hB3⟩
        rw [HSu.out]
        exact HO3.out.mono (by omega)
      case measure => simp [intOf]; omega
    · have ht : s.data.toList.take k = s.data.toList := List.take_of_length_le (by simp; omega)
      have ho := HA.out
      rw [ht] at ho
      have HO := Lib.hid ho
      clear ho ht
      go_wp2_with fail
      refine (s4Done_any w.heap.size u4 (serW s.data.toList) true wr HO.out HSm.out hB.size HTold.out).mono ?_
      rintro e w2 ⟨⟨v', rfl, ho⟩, hb2⟩
      have HO2 := Lib.hid ho
      clear ho
      go_wp2
      go_ret2
      exact ⟨⟨_, rfl, HO2.out⟩, hB.trans (hb2.mono hB.size)⟩

theorem serW_tw {s : ByteArray} {b : Bool} (h : wordB s.data.toList = b) : b = true → twS (serW s.data.toList) = true := by
  intro hb
  subst hb
  obtain ⟨h1, h2, _⟩ := (wordB_iff _).1 h
  exact (serW_ok _ h2).told h1
theorem sSeriesOf_any (s : ByteArray) (b : Bool) (w : World) (hs : s.size ≤ maxLen) (hb : wordB s.data.toList = b) :
    Calls Tryd.prog 21 #[.string s] w (STold w b (serW s.data.toList)) := by
  cases b with
  | false => exact sSeriesOf_no s w hs hb
  | true => exact sSeriesOf_yes s w hs hb

end Go.Proofs.YtdhmicpoigoleabDoor

/- The contracts of the model's 'SeriesCoef' and 'SeriesDepth'. -/

namespace Go.Proofs.YtdhmicpoigoleabDoor
open Go.RowKit Go.Shelf

theorem coefAt_get : ∀ {ts : List Tm} {t : Tm}, Canon ts → t ∈ ts → coefAt t.s ts = t.c
  | x :: r, t, h, ht => by
    obtain ⟨h1, h2⟩ := List.pairwise_cons.1 h.1
    rw [coefAt]
    rcases List.mem_cons.1 ht with rfl | ht
    · rw [if_pos rfl, coefAt_none fun u hu => (lessW_ne (h1 u hu)).symm]; omega
    · rw [if_neg (lessW_ne (h1 t ht)), coefAt_get ⟨h2, fun u hu => h.2 u (by simp [hu])⟩ ht]; omega
/-- The degree of the first monomial that is not 1. -/
def depthT : List Tm → Nat
  | [] => 0
  | t :: r => if t.s.size = 0 then depthT r else t.s.size
theorem depthT_skip : ∀ (ts : List Tm) (k : Nat), (∀ j (h : j < ts.length), j < k → ts[j].s.size = 0) → depthT ts = depthT (ts.drop k)
  | ts, 0, _ => by simp
  | [], k + 1, _ => by simp
  | t :: r, k + 1, h => by
    rw [depthT, if_pos (show t.s.size = 0 from h 0 (by simp) (by omega)), List.drop_succ_cons]
    exact depthT_skip r k fun j hj hk => by have := h (j + 1) (by simp; omega) (by omega); simpa using this

end Go.Proofs.YtdhmicpoigoleabDoor

/- Sums over products in whatever order; how great they get, how many monomials there are. -/

namespace Go.Proofs.YtdhmicpoigoleabDoor
open Go.RowKit

/-- The products of all entries of X with one; with all of Y, in Y's order. -/
def rowQ (u : Tm) (X : List Tm) : List Tm := (X.map fun t => pairS t u).filter short
def pairsQ (Y X : List Tm) : List Tm := Y.flatMap fun u => rowQ u X
theorem rowQ_snoc (u : Tm) (X : List Tm) (t : Tm) : rowQ u (X ++ [t]) = rowQ u X ++ (if (t.s ++ u.s).size ≤ 4 then [⟨t.c * u.c, t.s ++ u.s⟩] else []) := by
  unfold rowQ
  rw [List.map_append, List.filter_append, List.map_cons, List.map_nil, List.filter_cons, List.filter_nil]
  congr 1
  by_cases hs : (t.s ++ u.s).size ≤ 4
  · rw [if_pos (show short (pairS t u) = true from decide_eq_true hs), if_pos hs]; rfl
  · rw [if_neg (show ¬ short (pairS t u) = true by unfold short pairS; simpa using hs), if_neg hs]
theorem rowQ_perm (u : Tm) {X X' : List Tm} (h : X.Perm X') : (rowQ u X).Perm (rowQ u X') := (h.map _).filter _
theorem pairsQ_snoc (Y X : List Tm) (u : Tm) : pairsQ (Y ++ [u]) X = pairsQ Y X ++ rowQ u X := by unfold pairsQ; rw [List.flatMap_append]; simp
theorem rowQ_cons (u t : Tm) (X : List Tm) : rowQ u (t :: X) = [pairS t u].filter short ++ rowQ u X := by
  unfold rowQ
  rw [List.map_cons, List.filter_cons, List.filter_cons, List.filter_nil]
  split <;> simp
theorem rowS_cons (t u : Tm) (Y : List Tm) : rowS t (u :: Y) = [pairS t u].filter short ++ rowS t Y := by
  unfold rowS
  rw [List.map_cons, List.filter_cons, List.filter_cons, List.filter_nil]
  split <;> simp
theorem pairsQ_cons (k : ByteArray) (t : Tm) (X : List Tm) : ∀ Y, coefAt k (pairsQ Y (t :: X)) = coefAt k (rowS t Y) + coefAt k (pairsQ Y X)
  | [] => by simp [pairsQ, rowS, coefAt]
  | u :: r => by
    have ih := pairsQ_cons k t X r
    have e1 : ∀ Z, pairsQ (u :: r) Z = rowQ u Z ++ pairsQ r Z := fun Z => by unfold pairsQ; rw [List.flatMap_cons]
    rw [e1, e1, rowQ_cons, rowS_cons, coefAt_append, coefAt_append, coefAt_append, coefAt_append, ih]
    omega
theorem pairsQ_swap (k : ByteArray) (Y : List Tm) : ∀ X, coefAt k (pairsQ Y X) = coefAt k (pairsS X Y)
  | [] => by
    have : pairsQ Y [] = [] := by
      unfold pairsQ
      rw [List.flatMap_eq_nil_iff]
      intro u _; rfl
    rw [this]; rfl
  | t :: X => by
    have e : pairsS (t :: X) Y = rowS t Y ++ pairsS X Y := by unfold pairsS rowS; rw [List.flatMap_cons]
    rw [pairsQ_cons, e, coefAt_append, pairsQ_swap k Y X]
theorem pairsQ_perm {Y Y' : List Tm} (X : List Tm) (h : Y.Perm Y') : (pairsQ Y X).Perm (pairsQ Y' X) := h.flatMap_right _
theorem rowQ_len (u : Tm) (X : List Tm) : (rowQ u X).length ≤ X.length := by
  unfold rowQ
  exact Nat.le_trans (List.length_filter_le _ _) (by rw [List.length_map]; exact Nat.le_refl _)
theorem pairsQ_len (X : List Tm) : ∀ Y, (pairsQ Y X).length ≤ Y.length * X.length
  | [] => by simp [pairsQ]
  | u :: r => by
    have ih := pairsQ_len X r
    have h1 := rowQ_len u X
    have e : pairsQ (u :: r) X = rowQ u X ++ pairsQ r X := by unfold pairsQ; rw [List.flatMap_cons]
    rw [e, List.length_append, List.length_cons, Nat.succ_mul]
    omega
/-- Coefficients of at most M. -/
def BndT (M : Int) (ts : List Tm) : Prop := ∀ t ∈ ts, -M ≤ t.c ∧ t.c ≤ M
def MonoT (ts : List Tm) : Prop := ∀ t ∈ ts, monoB t.s = true
theorem BndT.perm {M : Int} {a b : List Tm} (h : BndT M a) (hp : a.Perm b) : BndT M b := fun t ht => h t (hp.mem_iff.2 ht)
theorem MonoT.perm {a b : List Tm} (h : MonoT a) (hp : a.Perm b) : MonoT b := fun t ht => h t (hp.mem_iff.2 ht)
theorem bndQ {X : List Tm} {u : Tm} (hX : BndT 1000000 X) (hu : -1000000 ≤ u.c ∧ u.c ≤ 1000000) : BndT 1000000000000 (rowQ u X) := fun t ht => by
  obtain ⟨v, hv, rfl⟩ := List.mem_map.1 (List.mem_filter.1 ht).1
  exact mul_bnd (hX v hv) hu
theorem bndQQ {X Y : List Tm} (hX : BndT 1000000 X) (hY : BndT 1000000 Y) : BndT 1000000000000 (pairsQ Y X) := fun t ht => by
  obtain ⟨u, hu, ht⟩ := List.mem_flatMap.1 ht
  exact bndQ hX (hY u hu) t ht
theorem coef_bnd {M : Int} (hM : 0 ≤ M) (k : ByteArray) : ∀ {ts : List Tm}, BndT M ts → -(M * ts.length) ≤ coefAt k ts ∧ coefAt k ts ≤ M * ts.length
  | [], _ => by simp [coefAt]
  | t :: r, h => by
    have ih := coef_bnd hM k (fun u hu => h u (List.mem_cons_of_mem _ hu))
    have ht := h t (by simp)
    have ec : coefAt k (t :: r) = (if t.s = k then t.c else 0) + coefAt k r := rfl
    have em : M * ((t :: r).length : Int) = M * (r.length : Int) + M := by rw [List.length_cons]; push_cast; rw [Int.mul_add, Int.mul_one]
    rw [ec, em]
    split <;> omega
theorem apart_len341 {ts : List Tm} (ha : Apart ts) (h : MonoT ts) : ts.length ≤ 341 := by
  have := nodup_len (ts.map fun t => t.s.data.toList) monosAll (by
    rw [List.nodup_iff_pairwise_ne, List.pairwise_map]
    exact ha.imp fun hl e => hl (bytes_ext e)) (fun l hl => by
    obtain ⟨t, ht, rfl⟩ := List.mem_map.1 hl
    exact mono_mem (h t ht))
  rwa [List.length_map, monosAll_len] at this
theorem mono_put {ts : List Tm} {s : ByteArray} {v : Int} (h : MonoT ts) (hs : monoB s = true) : MonoT (putT ts s v) := fun t ht => by
  rcases mem_put ht with rfl | ht
  · exact hs
  · exact h t ht
/-- One product more: what the map reads as, behind it. -/
theorem put_add {ts L : List Tm} (s : ByteArray) (d : Int) (h : ∀ k, coefAt k ts = coefAt k L) (k : ByteArray) : coefAt k (putT ts s (coefAt s ts + d)) = coefAt k (L ++ [⟨d, s⟩]) := by
  have ec : coefAt k [(⟨d, s⟩ : Tm)] = (if s = k then d else 0) + 0 := rfl
  rw [coefAt_put, coefAt_append, ec, Int.add_zero]
  by_cases hk : k = s
  · subst hk; simp [h]
  · simp [hk, Ne.symm hk, h]
theorem canon_same {ts us : List Tm} (h : ∀ k, coefAt k ts = coefAt k us) : canonT ts = canonT us := canonT_unique (canon_of ts) fun s => by rw [(canonT_spec ts).2, h]
theorem apart_bnd {M : Int} {ts : List Tm} (ha : Apart ts) (h : ∀ t ∈ canonT ts, -M ≤ t.c ∧ t.c ≤ M) (hM : 0 ≤ M) : BndT M ts := fun t ht => by
  by_cases h0 : t.c = 0
  · rw [h0]; omega
  · have hc : coefAt t.s (canonT ts) = t.c := by rw [(canonT_spec ts).2, apart_unique ha ht]
    by_cases hm : ∃ u ∈ canonT ts, u.s = t.s
    · obtain ⟨u, hu, e⟩ := hm
      rw [← e, coefAt_get (canon_of ts) hu] at hc
      rw [← hc]; exact h u hu
    · rw [coefAt_none fun u hu e => hm ⟨u, hu, e⟩] at hc
      exact absurd hc.symm h0

end Go.Proofs.YtdhmicpoigoleabDoor

/- A law for a region that draws its order, inside a fence, by what stands when some of its operations have come up: each operation is met once, in whatever order they come. -/

namespace Go.Proofs.YtdhmicpoigoleabDoor
open Go.RowKit Go.Shelf

theorem count_set (l : List Bool) : ∀ i, l[i]? = some false → (l.set i true).count false + 1 = l.count false := by
  induction l with
  | nil => intro i h; simp at h
  | cons b r ih =>
    intro i h
    cases i with
    | zero => simp at h; subst h; simp
    | succ i =>
      simp only [List.getElem?_cons_succ] at h
      have := ih i h
      simp only [List.set_cons_succ, List.count_cons]
      omega
theorem listed_false {l : Array Bool} {i : Nat} (h : l.getD i true = false) : l.toList[i]? = some false := by
  rw [Array.getD_eq_getD_getElem?] at h
  rw [Array.getElem?_toList]
  cases e : l[i]? with
  | none => rw [e] at h; cases h
  | some b => rw [e] at h; simp at h; rw [h]

theorem wpAnyIn_inv {F : Fence} {n : Nat} {P : Program} {md : Region.Mode} {ops : Array Oper} {Q : Exit → Act → World → Prop} (Inv : Array Bool → Act → World → Prop)
    (hstep : ∀ listed a w i, Inv listed a w → listed.getD i true = false → (∀ o, ops[i]? = some o → ∀ e ∈ o.after, Region.binds md e = true → listed.getD e.on false = true) → i < ops.size →
      wpOpIn F n P ops Q i (fun a' w' => Inv (listed.setIfInBounds i true) a' w') a w)
    (hdone : ∀ listed a w, Inv listed a w → (∀ i o, ops[i]? = some o → (∀ e ∈ o.after, Region.binds md e = true → listed.getD e.on false = true) → listed.getD i true = true) → Q .normal a w) :
    ∀ (fuel : Nat) (listed : Array Bool) (a : Act) (w : World), listed.toList.count false ≤ fuel → Inv listed a w → wpAnyIn F n P md ops Q fuel listed a w := by
  have hd : ∀ listed a w, Inv listed a w → Region.ready md ops listed = [] → Q .normal a w := fun listed a w hI hr => hdone listed a w hI fun i o ho hall => by
    cases h : listed.getD i true with
    | true => rfl
    | false =>
      have : i ∈ Region.ready md ops listed := mem_ready.2 ⟨h, o, ho, hall⟩
      rw [hr] at this; cases this
  intro fuel
  induction fuel with
  | zero =>
    intro listed a w hc hI
    have hr : Region.ready md ops listed = [] := by
      rw [List.eq_nil_iff_forall_not_mem]
      intro j hj
      have h1 := listed_false (mem_ready.1 hj).1
      have := count_set _ _ h1
      omega
    exact ⟨hr, hd _ _ _ hI hr⟩
  | succ fuel ih =>
    intro listed a w hc hI
    refine ⟨fun h => hd _ _ _ hI h, fun i hi => ?_⟩
    obtain ⟨h1, o, ho, hall⟩ := mem_ready.1 hi
    refine wpOpIn_mono (fun a' w' h => ih _ a' w' ?_ h) (hstep listed a w i hI h1 (fun o' ho' => by rw [ho] at ho'; cases ho'; exact hall) (Array.getElem?_eq_some_iff.1 ho).1)
    have := count_set _ _ (listed_false h1)
    rw [Array.toList_setIfInBounds]
    omega

end Go.Proofs.YtdhmicpoigoleabDoor

/- The contract of the program's 'WordPut'. -/

namespace Go.Proofs.YtdhmicpoigoleabDoor
open Go.RowKit Go.Shelf

attribute [local go_sem] Oper.semAt_some

/-- What a round keeps, where the iterator is that of a word. -/
def KeepP (n₀ N : Nat) (W W' : World) : Prop := Below n₀ W W' ∧ KeepsFrom N W W'

def funcV (p : Part) : Value := .func (.func p.gf) #[] p.lb
/-- The letters of a letter's image, as its iterator gives them. -/
def imgX (zs : List ByteArray) (x : UInt8) : List UInt8 := if 97 ≤ x.toNat then (zs.getD (idxB x) ByteArray.empty).data.toList else (zs.getD (idxB x) ByteArray.empty).data.toList.reverse.map invB
/-- All images, one behind the other. -/
def putX (zs : List ByteArray) (L : List UInt8) : List UInt8 := (L.map (imgX zs)).flatten
theorem imgX_len (zs : List ByteArray) (hz : ∀ z ∈ zs, wordB z.data.toList = true) (x : UInt8) : (imgX zs x).length ≤ 60 := by
  have hz' : (zs.getD (idxB x) ByteArray.empty).data.toList.length ≤ 60 := by
    rw [List.getD_eq_getElem?_getD]
    cases h : zs[idxB x]? with
    | none => simp
    | some z => exact ((wordB_iff _).1 (hz z (List.mem_of_getElem? h))).1
  unfold imgX
  split
  · exact hz'
  · rw [List.length_map, List.length_reverse]; exact hz'
theorem putX_len (zs : List ByteArray) (L : List UInt8) (hz : ∀ z ∈ zs, wordB z.data.toList = true) : (putX zs L).length ≤ L.length * 60 := by
  unfold putX
  induction L with
  | nil => simp
  | cons x r ih =>
    rw [List.map_cons, List.flatten_cons, List.length_append, List.length_cons]
    have := imgX_len zs hz x
    omega
theorem imgX_eq (zs : List ByteArray) (hz : ∀ z ∈ zs, wordB z.data.toList = true) (x : UInt8) : imgX zs x = imgL zs x ∧ letL (imgL zs x) = true := by
  have hl : letL (zs.getD (idxB x) ByteArray.empty).data.toList = true := by
    rw [List.getD_eq_getElem?_getD]
    cases h : zs[idxB x]? with
    | none => rfl
    | some z => exact ((wordB_iff _).1 (hz z (List.mem_of_getElem? h))).2.1
  unfold imgX imgL
  by_cases h : 97 ≤ x.toNat
  · rw [if_pos h, if_neg (by omega)]; exact ⟨rfl, hl⟩
  · rw [if_neg h, if_pos (by omega)]; exact ⟨inv_back _ hl, letL_back _ hl⟩
theorem putX_eq (zs : List ByteArray) (L : List UInt8) (hz : ∀ z ∈ zs, wordB z.data.toList = true) : putX zs L = putL zs L ∧ letL (putL zs L) = true := by
  unfold putX putL
  induction L with
  | nil => exact ⟨rfl, rfl⟩
  | cons x r ih =>
    obtain ⟨h1, h2⟩ := imgX_eq zs hz x
    rw [List.map_cons, List.map_cons, List.flatten_cons, List.flatten_cons, h1, ih.1, letL_append, h2, ih.2]
    exact ⟨rfl, rfl⟩
theorem letL_putX (zs : List ByteArray) (L : List UInt8) (hz : ∀ z ∈ zs, wordB z.data.toList = true) : letL (putX zs L) = true := by
  rw [(putX_eq zs L hz).1]; exact (putX_eq zs L hz).2
theorem infoSeqI : (Tryd.prog.info? IT).map (fun i => (i.zero, i.size, i.bytes)) = some (some .nilFunc, 1, 8) := by kernel_rfl

/-- An append in whatever place of a region. -/
theorem wpIn_append_op {F : Fence} {n : Nat} {P : Program} (w : World) {o : Oper} {a : Act} {K : Act → World → Prop} {Q : Exit → Act → World → Prop}
    (s x : Operand) (t : TypeId) (hop : o.op = Op.call { callee := Callee.builtin Builtin.append, args := #[s, x], argTypes := #[t, t] })
    (base : Nat) (e : TypeId) (i : TypeInfo) (z : Value) (size bytes : Nat) (h1 : P.underlying t = some (.slice e)) (h2 : P.info? e = some i) (h3 : i.zero = some z) (h4 : i.size = size) (h5 : i.bytes = bytes) (h6 : z.cells.size = size) (h7 : 0 < size)
    (v : Value) (k : Nat) (xs : List Value) (hs : a.eval s = v) (hown : w.ownsRow base e size v k xs) (ad : Addr) (m c : Nat) (news : List Value) (hx : a.eval x = .slice (some ad) m c) (hn : news.length = m * size)
    (hc : ∀ j u, news[j]? = some u → w.cell? (ad.add j) = some u) (h1c : ∀ u ∈ news, u.oneCell' = true) (b1 : k + m ≤ maxLen) (b2 : (k + m) * bytes ≤ 140737488355328) (b3 : base ≤ w.heap.size)
    (hK : ∀ v' w', w'.ownsRow base e size v' (k + m) (xs ++ news) → w.grownBy w' v.ownBlock → True → K (a.put o.dst v') w') : o.wpIn F n P a w K Q := by
  obtain ⟨v', w', hrun, r1, r2, _⟩ := run_append_own (P := P) w base t o.type e i z size bytes h1 h2 h3 h4 h5 h6 h7 v k xs hown ad m c news hn hc h1c b1 b2 b3
  unfold Oper.wpIn
  refine ⟨by simp [Oper.about, hop, resolve, Target.leads, Sem.run_pure], ?_⟩
  rw [Oper.semAt_plain F _ _ (by rw [hop]; intro c hc'; cases hc')]
  simp [execOp, hop, resolve, invoke, builtin, hs, hx, hrun, Result.andThen]
  exact hK v' w' r1 r2 trivial

theorem owns_slice {W : World} {base : Nat} {e : TypeId} {v : Value} {n : Nat} {xs : List Value} (h : W.ownsRow base e 1 v n xs) (h0 : 0 < W.heap.size) :
    ∃ a cap b, v = .slice a n cap ∧ (0 < n → a = some ⟨b, 0, none⟩) ∧ b < W.heap.size ∧ ∀ i (h : i < xs.length), W.cell? ⟨b, i, none⟩ = some xs[i] := by
  have hl := h.1
  rw [Nat.mul_one] at hl
  have hc := fun g cap (e : v = .slice (some ⟨g, 0, none⟩) n cap) => e
  rcases h.2 with ⟨rfl, e⟩ | ⟨g, cap, cur, rfl, e2⟩
  · have e0 : n = 0 := e
    subst e0
    exact ⟨none, 0, 0, rfl, fun h => absurd h (Nat.lt_irrefl _), h0, fun i hi => absurd hi (by omega)⟩
  · refine ⟨_, cap, g, rfl, fun _ => rfl, (ownsRow_cap h).2.2.2, fun i hi => ?_⟩
    rw [h.cellAt i (by omega)]
    exact List.getElem?_eq_getElem hi

/-- Four words in memory. -/
def FourAt (gi : Nat) (lo : Nat) (w : World) (zs : List ByteArray) : Prop :=
  gi < w.heap.size ∧ ∀ j (h : j < zs.length), ∃ v, w.cell? ⟨gi, j, none⟩ = some v ∧ WordAt lo w v zs[j].data.toList
theorem FourAt.below {gi lo : Nat} {w w' : World} {zs : List ByteArray} (h : FourAt gi lo w zs) (hb : Below w.heap.size w w') : FourAt gi lo w' zs :=
  ⟨Nat.lt_of_lt_of_le h.1 hb.size, fun j hj => by
    obtain ⟨v, h1, h2⟩ := h.2 j hj
    exact ⟨v, (hb.cell (p := ⟨gi, j, none⟩) h.1).trans h1, h2.below hb⟩⟩

end Go.Proofs.YtdhmicpoigoleabDoor

/- The law of a loop over an iterator whose variable is boxed in each round. -/

namespace Go.Proofs.YtdhmicpoigoleabDoor
open Go.RowKit Go.Shelf

/-- **The loop's law**, where each round's variable is boxed. -/
theorem range_law2 {α : Type} {n : Nat} {g : Operand} {ps : Array Tmp} {assign body : Code} {Q : Exit → Act → World → Prop} {a : Act} {w : World} {gf : Nat} {lb : Array Value} (hn : 10 ≤ n)
    (hg : a.eval g = .func (.func gf) #[] lb) (eg : ∀ args w, (callFunc gf args).run Tryd.prog w = .ok (.enter gf args) w)
    {encs : α → Array Value} (hps : ∀ x, (encs x).size = ps.size) (Kp : Nat → World → World → Prop) (hKt : ∀ {N X Y Z}, Kp N X Y → Kp N Y Z → Kp N X Z)
    (hKp : ∀ N W l o o', l < N → w.heap.size ≤ l → W.heap[l]? = some o → o.isCells = false → o.isWalk = false → Kp N W (W.putObj l o')) (hKm : ∀ {X Y}, Kp w.heap.size X Y → Kp (w.heap.size + 2) X Y)
    (ob : α → Obj) (hKa : ∀ N W o, w.heap.size ≤ W.heap.size → Kp N W (W.alloc o))
    {xs : List α}
    (hseq : ∀ (l : Nat) (J : List α → World → Prop) (V : World), Below w.heap.size w V → w.heap.size < V.heap.size → OwnFrom V.heap.size J →
      (∀ pre x W1, J pre W1 → pre ++ [x] <+: xs → YieldAt Fence.wide (n - 1 - 1) Tryd.prog l (encs x) W1 fun e W' => e = .returned (.bool true) ∧ J (pre ++ [x]) W' ∧ Kp V.heap.size W1 W') → J [] V →
      CallsIn Fence.wide (n - 1) Tryd.prog gf (#[.func (.yield l) #[] #[]] ++ lb) V fun e W' => (∃ v, e = .returned v) ∧ J xs W')
    (I : List α → World → Prop) (hI : OwnFrom w.heap.size I) (h0 : I [] w) (a₁ : α → Nat → Act)
    (hassign : ∀ (l : Nat) (x : α) (W : World) (K : Act → World → Prop), K (a₁ x W.heap.size) (W.alloc (ob x)) →
      assign.wpIn (Fence.wide.inRound l) (n - 1 - 1) Tryd.prog (Exit.then K (fun _ _ _ => False)) { tmps := (ps.zip (encs x)).foldl (fun t (q, v) => t.setIfInBounds q v) a.tmps, defers := [] } W)
    (hbody : ∀ (l : Nat) (pre : List α) (x : α) (b : Nat) (W : World), I pre W → pre ++ [x] <+: xs → W.heap.size = b + 1 → W.heap[b]? = some (ob x) → w.heap.size + 2 ≤ b →
      body.wpIn (Fence.wide.inRound l) (n - 1 - 1) Tryd.prog (goesOn w.heap.size Kp I (pre ++ [x]) W) (a₁ x b) W)
    (hdone : ∀ (D : Nat) (W : World), w.heap.size ≤ D → I xs W → W.heap[D]? = some (.deferred (some [])) → Q .normal { a with defers := { target := .collected D, args := #[] } :: a.defers } W) :
    (Code.rangeFunc g ps assign body).wpIn Fence.wide n Tryd.prog Q a w := by
  refine wpIn_rangeFunc fun fn hfn => ?_
  have lp : ∃ lp : LoopState → Loop, lp = fun st => { state := st, pending := none, fn, tmps := a.tmps, params := ps, assign, body, defers := w.heap.size } := ⟨_, rfl⟩
  obtain ⟨lp, hlp⟩ := lp
  have e1 := run_enterLoop_outer (P := Tryd.prog) (w := w) fn a.tmps ps assign body
  rw [show ({ state := .ready, pending := none, fn, tmps := a.tmps, params := ps, assign, body, defers := w.heap.size } : Loop) = lp .ready by rw [hlp]] at e1
  have kD : ((w.alloc (.deferred (some []))).alloc (.loop (lp .ready))).heap[w.heap.size]? = some (.deferred (some [])) := (Below.heap_alloc _ _ _ (by simp)).trans (World.alloc_heap_new w _)
  have kL : ((w.alloc (.deferred (some []))).alloc (.loop (lp .ready))).heap[w.heap.size + 1]? = some (.loop (lp .ready)) := by
    have := World.alloc_heap_new (w.alloc (.deferred (some []))) (.loop (lp .ready)); rwa [World.size_alloc] at this
  have i0 := hI.alloc (Obj.loop (lp .ready)) (hI.alloc (Obj.deferred (some [])) h0)
  have hs : ((w.alloc (.deferred (some []))).alloc (.loop (lp .ready))).heap.size = w.heap.size + 2 := by simp
  have hb : Below w.heap.size w ((w.alloc (.deferred (some []))).alloc (.loop (lp .ready))) := ((Below.refl _ w).alloc (Nat.le_refl _) _).alloc (by simp) _
  generalize ((w.alloc (.deferred (some []))).alloc (.loop (lp .ready))) = V at e1 kD kL i0 hs hb
  refine ⟨w.heap.size + 1, _, V, { target := .fn (.func gf) lb, args := #[.func (.yield (w.heap.size + 1)) #[] #[]] }, V, gf, #[.func (.yield (w.heap.size + 1)) #[] #[]] ++ lb, V, e1, ?_, fun f' hf' => ?_, ?_, fun _ => by omega, ?_⟩
  · simp only [resolve, hg]
    simp [go_sem]
  · trivial
  · simp [invoke, go_sem, eg]
  · refine (hseq (w.heap.size + 1) (fun pre W => I pre W ∧ W.heap[w.heap.size]? = some (.deferred (some [])) ∧ W.heap[w.heap.size + 1]? = some (.loop (lp .ready))) V hb (by omega) ?_ ?_ ⟨i0, kD, kL⟩).mono ?_
    · rintro s X Y row ⟨h1, h2, h3⟩ hgr hr
      have far : ∀ k, k < V.heap.size → k < X.heap.size → Y.heap[k]? = X.heap[k]? := fun k hk hX => hgr.block k hX (fun e => by have := (hr k e.symm).1; omega)
      exact ⟨hI s X Y row h1 hgr (fun r e => by obtain ⟨q1, q2⟩ := hr r e; exact ⟨by omega, q2⟩), (far _ (by omega) (Array.getElem?_eq_some_iff.1 h2).1).trans h2, (far _ (by omega) (Array.getElem?_eq_some_iff.1 h3).1).trans h3⟩
    · rintro pre x W ⟨h1, h2, h3⟩ hpre
      have hlt : w.heap.size + 1 < W.heap.size := (Array.getElem?_eq_some_iff.1 h3).1
      have hy := run_yield (P := Tryd.prog) (args := encs x) h3 (by rw [hlp]; exact hps x)
      rw [hlp] at hy
      obtain ⟨U, hU⟩ : ∃ U, W.alloc (ob x) = U := ⟨_, rfl⟩
      have u3 : U.heap[w.heap.size + 1]? = some (.loop (lp .ready)) := by rw [← hU]; exact (Below.heap_alloc _ _ _ hlt).trans h3
      have u2 : U.heap[w.heap.size]? = some (.deferred (some [])) := by rw [← hU]; exact (Below.heap_alloc _ _ _ (by omega)).trans h2
      have u1 : I pre U := by rw [← hU]; exact hI.alloc (ob x) h1
      have uk : Kp (w.heap.size + 2) W U := by rw [← hU]; exact hKa _ _ _ (by omega)
      have un : U.heap[W.heap.size]? = some (ob x) := by rw [← hU]; exact World.alloc_heap_new W _
      have us : U.heap.size = W.heap.size + 1 := by rw [← hU]; simp
      refine ⟨fn, _, assign, body, hy, roundIn_of_wpIn hfn (hassign _ x W _ ?_)⟩
      rw [hU]
      refine ⟨_, run_beginRound u3 (by rw [hlp]), ?_⟩
      have hltU : w.heap.size + 1 < U.heap.size := by omega
      have b3 : (U.putObj (w.heap.size + 1) (.loop { lp .ready with state := .busy })).heap[w.heap.size + 1]? = some (.loop { lp .ready with state := .busy }) := World.putObj_heap_same hltU
      have b2 : (U.putObj (w.heap.size + 1) (.loop { lp .ready with state := .busy })).heap[w.heap.size]? = some (.deferred (some [])) := (World.putObj_heap_other (by omega)).trans u2
      have b1 := hI.putObj (.loop { lp .ready with state := .busy }) u1 (by omega) u3 rfl
      have bn : (U.putObj (w.heap.size + 1) (.loop { lp .ready with state := .busy })).heap[W.heap.size]? = some (ob x) := (World.putObj_heap_other (by omega)).trans un
      have bs : (U.putObj (w.heap.size + 1) (.loop { lp .ready with state := .busy })).heap.size = W.heap.size + 1 := by rw [World.putObj_size]; exact us
      have bk : Kp (w.heap.size + 2) W (U.putObj (w.heap.size + 1) (.loop { lp .ready with state := .busy })) := hKt uk (hKp _ U _ _ _ (by omega) (by omega) u3 rfl rfl)
      have hWs : w.heap.size + 2 ≤ W.heap.size := by omega
      generalize (U.putObj (w.heap.size + 1) (.loop { lp .ready with state := .busy })) = X at b1 b2 b3 bk bn bs
      refine wpIn_mono (hbody _ pre x W.heap.size X b1 hpre bs bn hWs) ?_
      intro e a3 Y hgo
      cases e with
      | normal => ?_
      | _ => exact hgo.elim
      obtain ⟨k3, kp, hi⟩ := hgo
      have c3 := k3.same _ _ (by omega) b3 rfl
      have c2 := k3.same _ _ (Nat.le_refl _) b2 rfl
      have he := run_endRound (P := Tryd.prog) none c3
      refine ⟨_, _, he, rfl, ⟨hI.putObj _ hi (by omega) c3 rfl, (World.putObj_heap_other (by omega)).trans c2, ?_⟩, ?_⟩
      · rw [hlp]
        rw [hlp] at c3
        exact World.putObj_heap_same (Array.getElem?_eq_some_iff.1 c3).1
      · rw [hs]
        exact hKt (hKt bk (hKm kp)) (hKp _ Y _ _ _ (by omega) (by omega) c3 rfl rfl)
    · rintro e W ⟨⟨v, rfl⟩, h1, h2, h3⟩
      have he := run_endLoop (P := Tryd.prog) h3 (by rw [hlp]; simp)
      rw [show (lp .ready).pending = none by rw [hlp]] at he
      exact ⟨none, _, he, hdone _ _ (Nat.le_refl _) (hI.putObj _ h1 (by omega) h3 rfl) ((World.putObj_heap_other (by omega)).trans h2)⟩

end Go.Proofs.YtdhmicpoigoleabDoor

/- The contracts of slices.Values, slices.AppendSeq and slices.Collect at terms. -/

namespace Go.Proofs.YtdhmicpoigoleabDoor
open Go.RowKit Go.Shelf

attribute [local go_sem] Oper.semAt_some

abbrev encM (x : Tm) : Array Value := #[.agg #[.int .i64 x.c, .string x.s]]
abbrev ST : TypeId := 23

/-- The box B holds a slice that owns the terms. -/
def HoldT (base B : Nat) (pre : List Tm) (W : World) : Prop :=
  ∃ v, Boxed W B ST v ∧ W.ownsRow base TI 2 v pre.length (termsV pre) ∧ True
theorem HoldT.own (base B : Nat) : Own (HoldT base B) := holdsRow_own base B ST TI 2 (fun pre : List Tm => pre.length) (fun pre => termsV pre) (fun _ _ => True)

end Go.Proofs.YtdhmicpoigoleabDoor

/- The library's sort, at terms and 'compareTerms'. -/

namespace Go.Proofs.YtdhmicpoigoleabDoor
open Go.Shelf Go.RowKit Go.Lib Go.Sort

def sortT_ren : Go.Shelf.Ren := ⟨fun | 6 => 32 | 15 => 47 | 14 => 46 | 28 => 67 | 29 => 68 | 20 => 59 | 21 => 60 | 22 => 61 | 23 => 62 | 24 => 63 | 25 => 64 | 26 => 65 | 27 => 66 | 46 => 73 | 47 => 74 | 48 => 75 | 49 => 76 | 50 => 77 | 57 => 82 | n => n, fun | 22 => 23 | 24 => 48 | 25 => 73 | 3 => 3 | 39 => 98 | 0 => 0 | 53 => 116 | 55 => 118 | 4 => 4 | 46 => 109 | 45 => 108 | 50 => 113 | 5 => 5 | 9 => 9 | 66 => 122 | 70 => 126 | 76 => 133 | 77 => 134 | n => n, fun n => n⟩
theorem sortT : SlLaysF0.n6 Tryd.prog sortT_ren := {
  mixed := by kernel_rfl
  f6 := Exists.intro "slices.SortFunc[[]loop.example/foxcalculus/impl.Term,loop.example/foxcalculus/impl.Term]" ⟨of_decide_eq_true (by kernel_rfl), Tryd.func32.trans (congrArg some (by kernel_rfl))⟩
  f14 := Exists.intro "slices.pdqsortCmpFunc[loop.example/foxcalculus/impl.Term]" ⟨of_decide_eq_true (by kernel_rfl), Tryd.func46.trans (congrArg some (by kernel_rfl))⟩
  f15 := Tryd.func47.trans (congrArg some (by kernel_rfl))
  f20 := Exists.intro "slices.insertionSortCmpFunc[loop.example/foxcalculus/impl.Term]" ⟨of_decide_eq_true (by kernel_rfl), Tryd.func59.trans (congrArg some (by kernel_rfl))⟩
  f21 := Exists.intro "slices.heapSortCmpFunc[loop.example/foxcalculus/impl.Term]" ⟨of_decide_eq_true (by kernel_rfl), Tryd.func60.trans (congrArg some (by kernel_rfl))⟩
  f22 := Exists.intro "slices.breakPatternsCmpFunc[loop.example/foxcalculus/impl.Term]" ⟨of_decide_eq_true (by kernel_rfl), Tryd.func61.trans (congrArg some (by kernel_rfl))⟩
  f23 := Exists.intro "slices.choosePivotCmpFunc[loop.example/foxcalculus/impl.Term]" ⟨of_decide_eq_true (by kernel_rfl), Tryd.func62.trans (congrArg some (by kernel_rfl))⟩
  f24 := Exists.intro "slices.reverseRangeCmpFunc[loop.example/foxcalculus/impl.Term]" ⟨of_decide_eq_true (by kernel_rfl), Tryd.func63.trans (congrArg some (by kernel_rfl))⟩
  f25 := Exists.intro "slices.partialInsertionSortCmpFunc[loop.example/foxcalculus/impl.Term]" ⟨of_decide_eq_true (by kernel_rfl), Tryd.func64.trans (congrArg some (by kernel_rfl))⟩
  f26 := Exists.intro "slices.partitionEqualCmpFunc[loop.example/foxcalculus/impl.Term]" ⟨of_decide_eq_true (by kernel_rfl), Tryd.func65.trans (congrArg some (by kernel_rfl))⟩
  f27 := Exists.intro "slices.partitionCmpFunc[loop.example/foxcalculus/impl.Term]" ⟨of_decide_eq_true (by kernel_rfl), Tryd.func66.trans (congrArg some (by kernel_rfl))⟩
  f28 := Tryd.func67.trans (congrArg some (by kernel_rfl))
  f29 := Tryd.func68.trans (congrArg some (by kernel_rfl))
  f46 := Exists.intro "slices.siftDownCmpFunc[loop.example/foxcalculus/impl.Term]" ⟨of_decide_eq_true (by kernel_rfl), Tryd.func73.trans (congrArg some (by kernel_rfl))⟩
  f47 := Tryd.func74.trans (congrArg some (by kernel_rfl))
  f48 := Tryd.func75.trans (congrArg some (by kernel_rfl))
  f49 := Exists.intro "slices.medianAdjacentCmpFunc[loop.example/foxcalculus/impl.Term]" ⟨of_decide_eq_true (by kernel_rfl), Tryd.func76.trans (congrArg some (by kernel_rfl))⟩
  f50 := Exists.intro "slices.medianCmpFunc[loop.example/foxcalculus/impl.Term]" ⟨of_decide_eq_true (by kernel_rfl), Tryd.func77.trans (congrArg some (by kernel_rfl))⟩
  f57 := Exists.intro "slices.order2CmpFunc[loop.example/foxcalculus/impl.Term]" ⟨of_decide_eq_true (by kernel_rfl), Tryd.func82.trans (congrArg some (by kernel_rfl))⟩
  t0 := Tryd.underlying0
  a0 := Tryd.isAgg0
  z0 := Tryd.sizeOf0
  v0 := Tryd.zeroValue0
  t3 := Tryd.underlying3
  a3 := Tryd.isAgg3
  z3 := Tryd.sizeOf3
  v3 := Tryd.zeroValue3
  t4 := Tryd.underlying4
  a4 := Tryd.isAgg4
  z4 := Tryd.sizeOf4
  v4 := Tryd.zeroValue4
  t5 := Tryd.underlying5
  a5 := Tryd.isAgg5
  z5 := Tryd.sizeOf5
  v5 := Tryd.zeroValue5
  t9 := Tryd.underlying9
  a9 := Tryd.isAgg9
  z9 := Tryd.sizeOf9
  v9 := Tryd.zeroValue9
  t22 := Tryd.underlying23
  a22 := Tryd.isAgg23
  z22 := Tryd.sizeOf23
  v22 := Tryd.zeroValue23
  t25 := Tryd.underlying73
  a25 := Tryd.isAgg73
  z25 := Tryd.sizeOf73
  v25 := Tryd.zeroValue73
  t39 := Tryd.underlying98
  a39 := Tryd.isAgg98
  z39 := Tryd.sizeOf98
  v39 := Tryd.zeroValue98
  t45 := Tryd.underlying108
  a45 := Tryd.isAgg108
  z45 := Tryd.sizeOf108
  v45 := Tryd.zeroValue108
  t46 := Tryd.underlying109
  a46 := Tryd.isAgg109
  z46 := Tryd.sizeOf109
  v46 := Tryd.zeroValue109
  t50 := Tryd.underlying113
  a50 := Tryd.isAgg113
  z50 := Tryd.sizeOf113
  v50 := Tryd.zeroValue113
  t53 := Tryd.underlying116
  a53 := Tryd.isAgg116
  z53 := Tryd.sizeOf116
  v53 := Tryd.zeroValue116
  t55 := Tryd.underlying118
  a55 := Tryd.isAgg118
  z55 := Tryd.sizeOf118
  v55 := Tryd.zeroValue118
  t66 := Tryd.underlying122
  a66 := Tryd.isAgg122
  z66 := Tryd.sizeOf122
  v66 := Tryd.zeroValue122
  t70 := Tryd.underlying126
  a70 := Tryd.isAgg126
  z70 := Tryd.sizeOf126
  v70 := Tryd.zeroValue126
  t76 := Tryd.underlying133
  a76 := Tryd.isAgg133
  z76 := Tryd.sizeOf133
  v76 := Tryd.zeroValue133
  t77 := Tryd.underlying134
  a77 := Tryd.isAgg134
  z77 := Tryd.sizeOf134
  v77 := Tryd.zeroValue134 }

def encT (t : Tm) : List Value := [.int .i64 t.c, .string t.s]
def cmpT (a b : Tm) : Int := cmpW a.s b.s
theorem ltOf_cmpT (a b : Tm) : ltOf cmpT a b = lessW a.s b.s := by rw [lessW_cmp]; rfl
theorem swoT : SWO (ltOf cmpT) where
  irrefl x := by rw [ltOf_cmpT]; exact lessW_irrefl _
  trans x y z h1 h2 := by rw [ltOf_cmpT] at *; exact lessW_trans h1 h2
  ntrans x y z h1 h2 := by
    rw [ltOf_cmpT] at *
    cases h3 : lessW x.s z.s with
    | false => rfl
    | true =>
      cases h4 : lessW y.s x.s with
      | true => have := lessW_trans h4 h3; rw [h2] at this; cases this
      | false => have := lessW_tri h1 h4; rw [this, h2] at h3; cases h3

theorem cmpLaysT (blk off size : Nat) (w : World) : CmpLays Tryd.prog 33 #[] encT 2 cmpT blk off size w :=
  fun _ _ _ _ x y => compareTerms_any x y _

theorem sortTerms (blk off cap : Nat) (d : Array Tm) (w : World) (hH : HoldsK encT 2 w blk off d) (hblk : blk < w.heap.size) (hsz : d.size < 4611686018427387904) :
    Calls Tryd.prog 32 #[.slice (some ⟨blk, off, none⟩) d.size cap, .func (.func 33) #[] #[]] w fun e w' => e = .returned (.tuple #[]) ∧ ∃ d' n os, PermIn 0 d.size d d' ∧ SortedIn (ltOf cmpT) 0 d.size d' ∧ w' = sortWorldK encT 2 w blk off n d' os :=
  AnyQ.slices_SortFunc sortT 2 Tryd.isAgg48 Tryd.sizeOf48 encT (fun _ => rfl) (fun x v hv => by simp [encT] at hv; rcases hv with rfl | rfl <;> rfl) cmpT swoT 33 #[] blk off cap d w
    (enters_of Tryd.func33 (by kernel_rfl) rfl) (cmpLaysT blk off d.size w) hH hblk hsz

end Go.Proofs.YtdhmicpoigoleabDoor

/- The contract of slices.SortedFunc at terms. -/

namespace Go.Proofs.YtdhmicpoigoleabDoor
open Go.RowKit Go.Shelf Go.Sort

theorem flat_terms (d : Array Tm) : flatK encT 2 d = (termsV d.toList).toArray := by
  apply Array.toList_inj.1
  apply List.ext_getElem
  · simp [flatK, termsV_len]
  · intro j h1 h2
    have hj : j < d.size * 2 := by simpa [flatK] using h1
    have hq : j / 2 < d.toList.length := by simp; omega
    have hg := termsV_get d.toList (j / 2) hq
    have e1 : (flatK encT 2 d).toList[j] = (encT d[j / 2]!)[j % 2]! := by simp [flatK]
    have e0 : d[j / 2]! = d.toList[j / 2] := by rw [getElem!_pos d (j / 2) (by simpa using hq)]; simp
    rw [e1, e0]
    rcases Nat.mod_two_eq_zero_or_one j with h | h
    · rw [h]
      have e2 : j / 2 * 2 = j := by omega
      rw [e2] at hg
      exact ((List.getElem?_eq_some_iff.1 hg.1).2).symm
    · rw [h]
      have e2 : j / 2 * 2 + 1 = j := by omega
      rw [e2] at hg
      exact ((List.getElem?_eq_some_iff.1 hg.2).2).symm

theorem holdsK_of_owns {w : World} {base g cap n : Nat} {ts : List Tm} (hn : ts.length = n) (h : w.ownsRow base TI 2 (.slice (some ⟨g, 0, none⟩) n cap) n (termsV ts)) : HoldsK encT 2 w g 0 ts.toArray := by
  unfold HoldsK
  rw [flat_terms]
  intro j hj
  have hj2 : j < (termsV ts).length := by simpa using hj
  have hj3 : j < n * 2 := by rw [termsV_len] at hj2; omega
  refine ⟨?_, by rw [Nat.zero_add]; exact h.frozenAt j⟩
  rw [Nat.zero_add, h.cellAt j hj3, List.getElem?_eq_getElem hj2]
  simp only [id]
  rw [getElem!_pos _ j (by simpa using hj2)]
  simp

theorem owns_put {w : World} {base g cap n m : Nat} {os : Array Obj} {F : List Value} {xs : List Value} (hF : F.length = n * 2) (h : w.ownsRow base TI 2 (.slice (some ⟨g, 0, none⟩) n cap) n xs) :
    (grow (putRow id (Sort.ahead w m) g 0 F.toArray) os).ownsRow base TI 2 (.slice (some ⟨g, 0, none⟩) n cap) n F ∧ w.grownBy (grow (putRow id (Sort.ahead w m) g 0 F.toArray) os) (some g) := by
  rcases h.2 with ⟨h, _⟩ | ⟨g1, cap1, cur, h1, hb, hg, hn, hc, hs, ht⟩
  · cases h
  · cases h1
    have hlt : g < w.heap.size := (Array.getElem?_eq_some_iff.1 hg).1
    have hh : (grow (putRow id (Sort.ahead w m) g 0 F.toArray) os).heap[g]? = some (.cells (putCells id 0 F.toArray cur) TI (0, 0)) := by
      rw [heap_grow_old _ _ (by simpa using hlt)]
      simp [putRow, mapBlock, Sort.ahead, Array.getElem?_modify, hg, onCells]
    refine ⟨⟨hF, .inr ⟨g, cap, _, rfl, hb, hh, hn, hc, by simp [putCells, hs], ?_⟩⟩, ⟨rfl, rfl, rfl, by simp, fun k hk hne => ?_⟩⟩
    · have hle : F.length ≤ cur.size := by rw [hs, hF]; omega
      rw [← hF]
      apply List.ext_getElem?
      intro j
      by_cases hj : j < F.length
      · rw [List.getElem?_take_of_lt hj, Array.getElem?_toList]
        simp [putCells, hj, show j < cur.size by omega]
      · rw [List.getElem?_take_eq_none (by omega), List.getElem?_eq_none (by omega)]
    · rw [heap_grow_old _ _ (by simpa using hk)]
      have : g ≠ k := fun e => hne (by rw [e])
      simp [putRow, mapBlock, Sort.ahead, Array.getElem?_modify, this]

theorem perm_of {ts : List Tm} {d : Array Tm} (h : PermIn 0 ts.toArray.size ts.toArray d) : d.toList.Perm ts := by
  obtain ⟨h1, _, h3⟩ := h
  have e1 : d.extract 0 ts.toArray.size = d := by rw [← h1]; simp
  have e2 : ts.toArray.extract 0 ts.toArray.size = ts.toArray := by simp
  rw [e1, e2] at h3
  simpa using h3
theorem sorted_of {d : Array Tm} {n : Nat} (hn : d.size = n) (h : SortedIn (ltOf cmpT) 0 n d) : d.toList.Pairwise (fun a b => lessW b.s a.s = false) := by
  rw [List.pairwise_iff_getElem]
  intro i j hi hj hij
  have := h i j (Nat.zero_le _) hij (by rw [← hn]; simpa using hj)
  rw [ltOf_cmpT, getElem!_pos d j (by simpa using hj), getElem!_pos d i (by simpa using hi)] at this
  simpa using this

/-- The library's sort on a row of the call's own. -/
theorem sortOwn_any (base : Nat) (v : Value) (n : Nat) (ts : List Tm) (w : World) (hn : ts.length = n) (hm : n ≤ 1000000) (hbase : base ≤ w.heap.size) (h : w.ownsRow base TI 2 v n (termsV ts)) :
    Calls Tryd.prog 32 #[v, .func (.func 33) #[] #[]] w fun e w' =>
      e = .returned (.tuple #[]) ∧ (∃ ss : List Tm, ss.Perm ts ∧ ss.Pairwise (fun a b => lessW b.s a.s = false) ∧ w'.ownsRow base TI 2 v n (termsV ss)) ∧ Below base w w' := by
  by_cases h0 : n = 0
  · subst h0
    obtain rfl := List.length_eq_zero_iff.1 hn
    obtain ⟨p, cap, rfl⟩ : ∃ p cap, v = .slice p 0 cap := by
      rcases h.2 with ⟨rfl, _⟩ | ⟨g, cap, cur, rfl, _⟩
      · exact ⟨_, _, rfl⟩
      · exact ⟨_, _, rfl⟩
    refine (AnyF.slices_SortFunc_none (ρ := sortT_ren) { sortT with } p cap (.func (.func 33) #[] #[]) w).mono ?_
    rintro e w' ⟨rfl, rfl⟩
    exact ⟨rfl, ⟨[], List.Perm.refl _, List.Pairwise.nil, h⟩, Below.refl _ _⟩
  · rcases h.2 with ⟨rfl, h0'⟩ | ⟨g, cap, cur, rfl, hb, hg, hnc, hcm, _⟩
    · exact absurd h0' h0
    have hs := sortTerms g 0 cap ts.toArray w (holdsK_of_owns hn h) (Array.getElem?_eq_some_iff.1 hg).1 (by simp; omega)
    rw [show ts.toArray.size = n by simpa using hn] at hs
    refine hs.mono ?_
    rintro e w' ⟨rfl, d', m, os, hp, hso, rfl⟩
    have hsz : d'.size = n := by rw [hp.1]; simpa using hn
    have hp' : PermIn 0 ts.toArray.size ts.toArray d' := by rw [show ts.toArray.size = n by simpa using hn]; exact hp
    have ho := owns_put (m := m) (os := os) (F := termsV d'.toList) (by rw [termsV_len]; simp [hsz]) h
    have e1 : sortWorldK encT 2 w g 0 m d' os = grow (putRow id (Sort.ahead w m) g 0 (termsV d'.toList).toArray) os := by
      unfold sortWorldK putRowK; rw [flat_terms]
    rw [e1]
    exact ⟨rfl, ⟨d'.toList, perm_of hp', sorted_of hsz hso, ho.1⟩, (Below.refl _ _).grown ho.2 hbase (fun j ej => by cases ej; exact hb)⟩

end Go.Proofs.YtdhmicpoigoleabDoor

/- The contracts of the program's 'joinTerms' and 'push'. -/

namespace Go.Proofs.YtdhmicpoigoleabDoor
open Go.RowKit Go.Shelf

/-- All below B as it was, but for the block bs. -/
structure BelowBut (bs B : Nat) (w w' : World) : Prop where
  os : w'.os = w.os
  tape : w'.tape = w.tape
  output : w'.output = w.output
  size : w.heap.size ≤ w'.heap.size
  block : ∀ k, k < B → k ≠ bs → w'.heap[k]? = w.heap[k]?
theorem BelowBut.refl (bs B : Nat) (w : World) : BelowBut bs B w w := ⟨rfl, rfl, rfl, Nat.le_refl _, fun _ _ _ => rfl⟩
theorem BelowBut.trans {bs B : Nat} {a b c : World} (h : BelowBut bs B a b) (k : BelowBut bs B b c) : BelowBut bs B a c :=
  ⟨k.os.trans h.os, k.tape.trans h.tape, k.output.trans h.output, Nat.le_trans h.size k.size, fun i hi hb => (k.block i hi hb).trans (h.block i hi hb)⟩
theorem BelowBut.of {B : Nat} {w w' : World} (bs : Nat) (h : Below B w w') : BelowBut bs B w w' := ⟨h.os, h.tape, h.output, h.size, fun k hk _ => h.block k hk⟩

abbrev SrT : TypeId := 81
abbrev CF : Value := .func (.func 33) #[] #[]
/-- The struct at bs holds the terms. -/
def HoldS (base bs : Nat) (acc : List Tm) (W : World) : Prop :=
  ∃ v, W.heap[bs]? = some (.cells #[v, CF] SrT (0, 0)) ∧ W.ownsRow base TI 2 v acc.length (termsV acc)

/-- What the calls of push share. -/
theorem push_cells {base bs : Nat} {acc : List Tm} {w : World} (h : HoldS base bs acc w) (hbs : bs < base) (hbase : base ≤ w.heap.size) (x : Tm) :
    ∃ v, (w.alloc (.cells #[.int .i64 x.c, .string x.s] TI)).cell? ⟨bs, 0, none⟩ = some v ∧ (w.alloc (.cells #[.int .i64 x.c, .string x.s] TI)).cell? ⟨bs, 1, none⟩ = some CF ∧
      (w.alloc (.cells #[.int .i64 x.c, .string x.s] TI)).cell? ⟨w.heap.size, 0, none⟩ = some (.int .i64 x.c) ∧ (w.alloc (.cells #[.int .i64 x.c, .string x.s] TI)).cell? ⟨w.heap.size, 1, none⟩ = some (.string x.s) ∧
      (w.alloc (.cells #[.int .i64 x.c, .string x.s] TI)).ownsRow base TI 2 v acc.length (termsV acc) ∧ (w.alloc (.cells #[.int .i64 x.c, .string x.s] TI)).heap[bs]? = some (.cells #[v, CF] SrT (0, 0)) ∧ ∀ j, v.ownBlock = some j → base ≤ j ∧ j < w.heap.size := by
  obtain ⟨v, hbx, hrow⟩ := h
  have hbV : Below w.heap.size w (w.alloc (.cells #[.int .i64 x.c, .string x.s] TI)) := (Below.refl _ _).alloc (Nat.le_refl _) _
  have hbxV := (hbV.block bs (by omega)).trans hbx
  have hxV : (w.alloc (.cells #[.int .i64 x.c, .string x.s] TI)).heap[w.heap.size]? = some (.cells #[.int .i64 x.c, .string x.s] TI (0, 0)) := World.alloc_heap_new _ _
  exact ⟨v, by simp [World.cell?, hbxV], by simp [World.cell?, hbxV], (by unfold World.cell?; rw [hxV]; rfl), (by unfold World.cell?; rw [hxV]; rfl), hrow.alloc _, hbxV, fun j ej => by
    rcases hrow.2 with ⟨rfl, _⟩ | ⟨g1, cap1, cur1, rfl, hg1, hg2, _⟩
    · cases ej
    · simp [Value.ownBlock] at ej
      subst ej
      exact ⟨hg1, (Array.getElem?_eq_some_iff.1 hg2).1⟩⟩

theorem HoldS.set {bs : Nat} {w : World} {v : Value} (h : w.heap[bs]? = some (.cells #[v, CF] SrT (0, 0))) (u : Value) : (w.setCell ⟨bs, 0, none⟩ u).heap[bs]? = some (.cells #[u, CF] SrT (0, 0)) := by
  simp [World.setCell, Array.getElem?_modify, h]
theorem bs_frozen {bs : Nat} {w : World} {v : Value} (h : w.heap[bs]? = some (.cells #[v, CF] SrT (0, 0))) : w.frozen? ⟨bs, 0, none⟩ = false := by
  simp [World.frozen?, h]
theorem frozen_past {w : World} {a : Addr} (h : w.frozen? a = false) (hb : a.block < w.heap.size) (o : Obj) : (w.alloc o).frozen? a = false :=
  (World.frozen?_of_block (w := w) (Below.heap_alloc w o a.block hb)).trans h
theorem ownLow {W : World} {base : Nat} {e : TypeId} {size : Nat} {v : Value} {n : Nat} {xs : List Value} (h : W.ownsRow base e size v n xs) : ∀ j, v.ownBlock = some j → base ≤ j := by
  intro j ej
  rcases h.2 with ⟨rfl, _⟩ | ⟨g1, cap1, cur1, rfl, hg1, _⟩
  · cases ej
  · simp [Value.ownBlock] at ej
    subst ej
    exact hg1
/-- What an append stored into the struct leaves. -/
theorem push_done {base bs m : Nat} {W w1 : World} {v v' : Value} {o : Obj} {us : List Tm} {xs zs : List Value} {n : Nat} (hbx : W.heap[bs]? = some (.cells #[v, CF] SrT (0, 0))) (hbs : bs < base) (hbase : base ≤ W.heap.size)
    (hrow : W.ownsRow base TI 2 v n zs) (hown1 : w1.ownsRow base TI 2 v' m xs) (hm : m = us.length) (hx : xs = termsV us) (hgrow : (W.drew.alloc o).grownBy w1 v.ownBlock) :
    HoldS base bs us (w1.setCell ⟨bs, 0, none⟩ v') ∧ BelowBut bs base W (w1.setCell ⟨bs, 0, none⟩ v') := by
  have hl := ownLow hrow
  have hB : Below base W w1 := ((Below.refl base W).drew.alloc (by show base ≤ W.heap.size; exact hbase) _).grown hgrow (by simp; show base ≤ W.heap.size + 1; omega) hl
  have h1 : w1.heap[bs]? = some (.cells #[v, CF] SrT (0, 0)) := (hB.block bs hbs).trans hbx
  refine ⟨⟨v', HoldS.set h1 v', ?_⟩, (BelowBut.of bs hB).trans ⟨rfl, rfl, rfl, (KeepsWalks.setCell w1 _ _).size, fun k _ hk => Below.heap_setCell _ _ _ k hk⟩⟩
  rw [← hm, ← hx]
  exact ownsRow_setCell_below hown1 hbs _

theorem add_off (g n : Nat) : (⟨g, 0, none⟩ : Addr).add n = ⟨g, n, none⟩ := by
  unfold Addr.add
  by_cases h : n = 0
  · subst h; simp
  · simp [h]
theorem compareBytes_zero : ∀ a b : List UInt8, Lib.compareBytes a b = 0 → a = b
  | [], [], _ => rfl
  | [], _ :: _, h => by simp [Lib.compareBytes] at h
  | _ :: _, [], h => by simp [Lib.compareBytes] at h
  | a :: ar, b :: bs, h => by
    unfold Lib.compareBytes at h
    by_cases h1 : a < b
    · rw [if_pos h1] at h; cases h
    · by_cases h2 : b < a
      · rw [if_neg h1, if_pos h2] at h; cases h
      · rw [if_neg h1, if_neg h2] at h
        rw [compareBytes_zero ar bs h]
        have : a = b := by
          apply UInt8.toNat_inj.1
          rw [UInt8.lt_iff_toNat_lt] at h1 h2
          omega
        rw [this]
theorem cmpW_zero {a b : ByteArray} (h : cmpW a b = 0) : a = b := by
  unfold cmpW orInt at h
  split at h
  · exact ByteArray.ext (Array.ext' (compareBytes_zero _ _ h))
  · rename_i h0
    exact absurd h (by first | exact h0 | simpa using h0)
theorem compareBytes_self : ∀ a : List UInt8, Lib.compareBytes a a = 0
  | [] => rfl
  | a :: ar => by
    unfold Lib.compareBytes
    rw [if_neg (by rw [UInt8.lt_iff_toNat_lt]; omega), if_neg (by rw [UInt8.lt_iff_toNat_lt]; omega)]
    exact compareBytes_self ar
theorem cmpW_self (a : ByteArray) : cmpW a a = 0 := by
  unfold cmpW orInt Lib.compareInt
  simp [compareBytes_self]

end Go.Proofs.YtdhmicpoigoleabDoor

/- The contract of the program's 'push'. -/

namespace Go.Proofs.YtdhmicpoigoleabDoor
open Go.RowKit Go.Shelf

theorem set_last (pre : List Tm) (l : Tm) (c : Int) (k : Nat) (hk : pre.length = k) :
    ((termsV (pre ++ [l])).set (k * 2) (.int .i64 c)).set (k * 2 + 1) (.string l.s) = termsV (pre ++ [⟨c, l.s⟩]) := by
  have hl := termsV_len pre
  rw [hk] at hl
  rw [termsV_append, termsV_append, List.set_append_right _ _ (by omega), List.set_append_right _ _ (by omega), hl, Nat.sub_self, show k * 2 + 1 - k * 2 = 1 by omega]
  rfl
/-- What the join that is stored leaves. -/
theorem join_done {base bs g k cap : Nat} {w W w2 : World} {pre us : List Tm} {l : Tm} {c : Int} (HBB : BelowBut bs base w W) (hb2 : Below W.drew.heap.size W.drew w2)
    (hbx : W.heap[bs]? = some (.cells #[.slice (some ⟨g, 0, none⟩) (k + 1) cap, CF] SrT (0, 0))) (hrow : W.ownsRow base TI 2 (.slice (some ⟨g, 0, none⟩) (k + 1) cap) (k + 1) (termsV us))
    (hus : pre ++ [l] = us) (hk : pre.length = k) (hbs : bs < base) (hgb : base ≤ g) (hbase : base ≤ W.heap.size) :
    HoldS base bs (pre ++ [⟨c, l.s⟩]) ((w2.setCell ⟨g, k * 2, none⟩ (.int .i64 c)).setCell ⟨g, k * 2 + 1, none⟩ (.string l.s)) ∧
      BelowBut bs base w ((w2.setCell ⟨g, k * 2, none⟩ (.int .i64 c)).setCell ⟨g, k * 2 + 1, none⟩ (.string l.s)) := by
  subst hus
  have hB : Below W.heap.size W w2 := (Below.refl _ W).drew.trans hb2
  have hll : (pre ++ [l]).length = k + 1 := by rw [List.length_append, hk]; rfl
  have hr2 : w2.ownsRow base TI 2 (.slice (some ⟨g, 0, none⟩) (k + 1) cap) (k + 1) (termsV (pre ++ [l])) := by
    rw [← hll] at hrow ⊢
    exact OwnT.below hrow hB
  have hst := ((hr2.stored (k * 2) (.int .i64 c)).1.stored (k * 2 + 1) (.string l.s)).1
  rw [set_last pre l c k hk] at hst
  have hb3 : Below base W ((w2.setCell ⟨g, k * 2, none⟩ (.int .i64 c)).setCell ⟨g, k * 2 + 1, none⟩ (.string l.s)) :=
    ((hB.mono hbase).setCell (p := ⟨g, k * 2, none⟩) hgb _).setCell (p := ⟨g, k * 2 + 1, none⟩) hgb _
  have hl2 : (pre ++ [(⟨c, l.s⟩ : Tm)]).length = k + 1 := by rw [List.length_append, hk]; rfl
  exact ⟨⟨_, (hb3.block bs hbs).trans hbx, by rw [hl2]; exact hst⟩, HBB.trans (BelowBut.of bs hb3)⟩

end Go.Proofs.YtdhmicpoigoleabDoor

/- The contracts of the program's 'push' (all ways in one) and 'gathered'. -/

namespace Go.Proofs.YtdhmicpoigoleabDoor
open Go.RowKit Go.Shelf

theorem push_len (acc : List Tm) (t : Tm) : (pushT acc t).length ≤ acc.length + 1 := by
  rcases List.eq_nil_or_concat acc with rfl | ⟨b, l, rfl⟩
  · rw [push_nil]; simp
  · rw [List.concat_eq_append, push_last]; split <;> simp
theorem push_bnd {acc : List Tm} {t : Tm} {B C : Int} (h : ∀ u ∈ acc, -B ≤ u.c ∧ u.c ≤ B) (ht : -C ≤ t.c ∧ t.c ≤ C) (hB : 0 ≤ B) (hC : 0 ≤ C) : ∀ u ∈ pushT acc t, -(B + C) ≤ u.c ∧ u.c ≤ B + C := by
  intro u hu
  rcases List.eq_nil_or_concat acc with rfl | ⟨b, l, rfl⟩
  · rw [push_nil] at hu; rw [List.mem_singleton.1 hu]; omega
  · rw [List.concat_eq_append] at *
    rw [push_last] at hu
    have hl := h l (by simp)
    split at hu
    · rcases List.mem_append.1 hu with hu | hu
      · have := h u (by simp [hu]); omega
      · rw [List.mem_singleton.1 hu]; show -(B + C) ≤ l.c + t.c ∧ l.c + t.c ≤ B + C; omega
    · rcases List.mem_append.1 hu with hu | hu
      · have := h u hu; omega
      · rw [List.mem_singleton.1 hu]; omega
theorem merge_take {ts : List Tm} {k : Nat} (hk : k < ts.length) : mergeT (ts.take (k + 1)) = pushT (mergeT (ts.take k)) ts[k] := by
  unfold mergeT
  rw [List.take_add_one, List.getElem?_eq_getElem hk, List.foldl_append]
  rfl
theorem merge_len (ts : List Tm) : ∀ k, (mergeT (ts.take k)).length ≤ k
  | 0 => by simp [mergeT]
  | k + 1 => by
    by_cases hk : k < ts.length
    · rw [merge_take hk]
      have := push_len (mergeT (ts.take k)) ts[k]
      have := merge_len ts k
      omega
    · have := merge_len ts k
      rw [List.take_of_length_le (by omega)] at this ⊢
      omega
theorem merge_bnd {ts : List Tm} {C : Int} (hC : 0 ≤ C) (h : ∀ u ∈ ts, -C ≤ u.c ∧ u.c ≤ C) : ∀ k : Nat, ∀ u ∈ mergeT (ts.take k), -(C * k) ≤ u.c ∧ u.c ≤ C * k
  | 0, u, hu => by simp [mergeT] at hu
  | k + 1, u, hu => by
    have e : C * ((k + 1 : Nat) : Int) = C * k + C := by rw [Int.natCast_add, Int.mul_add]; simp
    have hk0 : 0 ≤ C * (k : Int) := Int.mul_nonneg hC (Int.natCast_nonneg _)
    rw [e]
    by_cases hk : k < ts.length
    · rw [merge_take hk] at hu
      exact push_bnd (merge_bnd hC h k) (h _ (List.getElem_mem hk)) hk0 hC u hu
    · rw [List.take_of_length_le (by omega)] at hu
      have := merge_bnd hC h k u (by rw [List.take_of_length_le (by omega)]; exact hu)
      omega
theorem merge_all (ts : List Tm) : mergeT (ts.take ts.length) = mergeT ts := by rw [List.take_of_length_le (Nat.le_refl _)]

theorem HoldS.alloc {base bs : Nat} {acc : List Tm} {w : World} (h : HoldS base bs acc w) (hb : bs < w.heap.size) (o : Obj) : HoldS base bs acc (w.alloc o) := by
  obtain ⟨v, h1, h2⟩ := h
  exact ⟨v, (Below.heap_alloc _ _ _ hb).trans h1, h2.alloc _⟩
theorem smallT_perm {ss ts : List Tm} (hp : ss.Perm ts) (hl : ts.length ≤ maxLen) (h : ∀ t ∈ ts, t.s.size ≤ maxLen ∧ -9223372036854775808 ≤ t.c ∧ t.c ≤ 9223372036854775807) : SmallT ss :=
  ⟨by rw [hp.length_eq]; exact hl, fun t ht => h t (hp.mem_iff.1 ht)⟩

end Go.Proofs.YtdhmicpoigoleabDoor

/- The contracts of the laws' own helpers that mark memory and look the marks up. -/

namespace Go.Proofs.YtdhmicpoigoleabDoor
open Go.RowKit Go.Shelf

/-- A term is stored: its two cells. -/
theorem set_terms (us : List Tm) (i : Nat) (t : Tm) (hi : i < us.length) : ((termsV us).set (i * 2) (.int .i64 t.c)).set (i * 2 + 1) (.string t.s) = termsV (us.set i t) := by
  have e : us = us.take i ++ us[i] :: us.drop (i + 1) := by rw [List.getElem_cons_drop]; exact (List.take_append_drop i us).symm
  have hl : (termsV (us.take i)).length = i * 2 := by rw [termsV_len, List.length_take, Nat.min_eq_left (by omega)]
  have hset : us.set i t = us.take i ++ t :: us.drop (i + 1) := by rw [List.set_eq_take_append_cons_drop, if_pos hi]
  rw [hset]
  have e2 : termsV us = termsV (us.take i) ++ .int .i64 us[i].c :: .string us[i].s :: termsV (us.drop (i + 1)) := by
    rw [← termsV_cons, ← termsV_append, ← e]
  rw [e2, termsV_append, termsV_cons, List.set_append_right _ _ (by omega), List.set_append_right _ _ (by omega), hl, Nat.sub_self, show i * 2 + 1 - i * 2 = 1 by omega]
  rfl

/-- The text of a mark. -/
def mkB (m : Nat) (t : ByteArray) : ByteArray :=
  if _h : m = 0 then t else mkB (m / 10) (⟨#[UInt8.ofNat (48 + m % 10)]⟩ ++ t)
termination_by m
decreasing_by omega
theorem mkB_zero (t : ByteArray) : mkB 0 t = t := by rw [mkB]; simp
theorem mkB_step {m : Nat} (h : m ≠ 0) (t : ByteArray) : mkB (m / 10) (⟨#[UInt8.ofNat (48 + m % 10)]⟩ ++ t) = mkB m t := by conv => rhs; rw [mkB, dif_neg h]
def mkS (k : Nat) : ByteArray := ⟨#[109]⟩ ++ mkB k ⟨#[]⟩

end Go.Proofs.YtdhmicpoigoleabDoor

/- The contract of slices.DeleteFunc at 'isZero'. -/

namespace Go.Proofs.YtdhmicpoigoleabDoor
open Go.RowKit Go.Shelf

/-- A shorter slice of the same row. -/
theorem ownsRow_shorter {w : World} {base : Nat} {e : TypeId} {size g n k cap : Nat} {xs : List Value} (h : w.ownsRow base e size (.slice (some ⟨g, 0, none⟩) n cap) n xs) (hk : k ≤ n) :
    w.ownsRow base e size (.slice (some ⟨g, 0, none⟩) k cap) k (xs.take (k * size)) := by
  have hks : k * size ≤ n * size := Nat.mul_le_mul_right _ hk
  rcases h.2 with ⟨h', _⟩ | ⟨g', cap', cur, h', hb, hg, hnc, hcm, hcs, htake⟩
  · simp at h'
  · simp only [Value.slice.injEq, Option.some.injEq, Addr.mk.injEq, and_true, true_and] at h'
    obtain ⟨rfl, rfl⟩ := h'
    refine ⟨by rw [List.length_take, h.1]; omega, .inr ⟨g, cap, cur, rfl, hb, hg, by omega, hcm, hcs, ?_⟩⟩
    rw [← htake, List.take_take, Nat.min_eq_left hks]
/-- Stores behind the first m cells. -/
theorem ownsRow_behind {base : Nat} {e : TypeId} {size g n cap m : Nat} : ∀ (vs : List Value) (o : Nat) {w : World} {xs : List Value}, w.ownsRow base e size (.slice (some ⟨g, 0, none⟩) n cap) n xs → m ≤ o →
    ∃ ys, (w.setCells g o vs).ownsRow base e size (.slice (some ⟨g, 0, none⟩) n cap) n ys ∧ ys.take m = xs.take m
  | [], _, _, xs, h, _ => ⟨xs, h, rfl⟩
  | v :: r, o, w, xs, h, hm => by
    obtain ⟨ys, h1, h2⟩ := ownsRow_behind (m := m) r (o + 1) (h.stored o v).1 (by omega)
    refine ⟨ys, h1, h2.trans ?_⟩
    rw [List.take_set, List.set_eq_of_length_le (by rw [List.length_take]; omega)]
theorem below_cells {B g : Nat} (hg : B ≤ g) : ∀ (vs : List Value) (o : Nat) {w0 w : World}, Below B w0 w → Below B w0 (w.setCells g o vs)
  | [], _, _, _, h => h
  | v :: r, o, _, _, h => below_cells hg r (o + 1) (h.setCell (p := ⟨g, o, none⟩) hg v)

/-- 'clear' at a slice of terms. -/
theorem clear_terms {P : Program} (w : World) (t : TypeId) (ht : P.underlying t = some (.slice TI)) (hv : ∀ w, (zeroValue TI).run P w = .ok (.agg #[.int .i64 0, .string ByteArray.empty]) w) (b o n c : Nat) (hn : 0 < n)
    (hc : ∀ j, j < n * 2 → (w.cell? ⟨b, o + j, none⟩).isSome = true) (hf : ∀ j, w.frozen? ⟨b, j, none⟩ = false) :
    ∃ vs, ∀ ty, (Builtin.clear_ #[t] ty #[.slice (some ⟨b, o, none⟩) n c]).run P w = .ok (.tuple #[]) (w.setCells b o vs) := by
  refine ⟨(Builtin.zeroCells #[.int .i64 0, .string ByteArray.empty] n).toList, fun ty => ?_⟩
  have hlen : (Builtin.zeroCells #[.int .i64 0, .string ByteArray.empty] n).toList.length = n * 2 := by simp [Builtin.zeroCells]
  have hst := run_storeCells_cells (P := P) b o (Builtin.zeroCells #[.int .i64 0, .string ByteArray.empty] n).toList 0 w (by rw [hlen]; simpa using hc) (fun j _ => hf _) (by
    intro u hu
    simp only [Builtin.zeroCells, Array.toList_map, List.mem_map] at hu
    obtain ⟨i, _, rfl⟩ := hu
    have h2 : i % 2 < 2 := Nat.mod_lt _ (by omega)
    rcases (by omega : i % 2 = 0 ∨ i % 2 = 1) with h | h
    · simp [h, Value.oneCell']
    · simp [h, Value.oneCell'])
  simp only [Nat.add_zero] at hst
  obtain ⟨m, rfl⟩ : ∃ m, n = m + 1 := ⟨n - 1, by omega⟩
  simp [Builtin.clear_, run_underlying ht, hv, Value.cells, hst]

abbrev nzT (ts : List Tm) : List Tm := ts.filter fun t => !(t.c == 0)
theorem nzT_all {ts : List Tm} (h : ∀ j (h : j < ts.length), ts[j].c ≠ 0) : nzT ts = ts := by
  refine List.filter_eq_self.2 fun t ht => ?_
  obtain ⟨j, hj, rfl⟩ := List.getElem_of_mem ht
  simpa using h j hj
theorem nzT_first {ts : List Tm} {i : Nat} (hi : i < ts.length) (h0 : ts[i].c = 0) (h : ∀ j (h : j < i), ts[j].c ≠ 0) : nzT (ts.take (i + 1)) = ts.take i := by
  rw [List.take_add_one, List.getElem?_eq_getElem hi]
  unfold nzT
  rw [List.filter_append]
  have h1 : (ts.take i).filter (fun t => !(t.c == 0)) = ts.take i := nzT_all fun j hj => by
    rw [List.length_take] at hj
    rw [List.getElem_take]
    exact h j (by omega)
  rw [h1]
  simp [h0]
theorem nzT_step {ts : List Tm} {j : Nat} {t : Tm} (hj : j < ts.length) (ht : ts[j] = t) : nzT (ts.take (j + 1)) = nzT (ts.take j) ++ (if t.c = 0 then [] else [t]) := by
  rw [List.take_add_one, List.getElem?_eq_getElem hj]
  unfold nzT
  rw [List.filter_append, ht]
  by_cases h : t.c = 0 <;> simp [h]
theorem nzT_len (ts : List Tm) (j : Nat) : (nzT (ts.take j)).length ≤ j := Nat.le_trans (List.length_filter_le _ _) (by rw [List.length_take]; omega)

/-- The terms kept so far, and the rest as it was. -/
structure Kept (base : Nat) (w : World) (g cap n i j : Nat) (ts us : List Tm) : Prop where
  own : w.ownsRow base TI 2 (.slice (some ⟨g, 0, none⟩) n cap) n (termsV us)
  len : us.length = n
  head : us.take i = nzT (ts.take j)
  tail : us.drop j = ts.drop j
  hi : i < j
  hj : j ≤ n
theorem Kept.below {base : Nat} {w w' : World} {g cap n i j : Nat} {ts us : List Tm} (h : Kept base w g cap n i j ts us) (hb : Below w.heap.size w w') : Kept base w' g cap n i j ts us :=
  ⟨by have := h.own; rw [← h.len] at this ⊢; exact OwnT.below this hb, h.len, h.head, h.tail, h.hi, h.hj⟩
theorem Kept.at_ {base : Nat} {w : World} {g cap n i j : Nat} {ts us : List Tm} (h : Kept base w g cap n i j ts us) (hjn : j < n) (hz : j < ts.length) :
    w.cell? ⟨g, j * 2, none⟩ = some (.int .i64 ts[j].c) ∧ w.cell? ⟨g, j * 2 + 1, none⟩ = some (.string ts[j].s) := by
  have hta := termsAt_of_owns (ts := us) (g := g) (cap := cap) rfl (by rw [h.len]; exact h.own)
  have hju : j < us.length := by rw [h.len]; exact hjn
  obtain ⟨h1, h2⟩ := hta.2 j hju
  have e : us[j] = ts[j] := by
    have := congrArg (·[0]?) h.tail
    simp only [List.getElem?_drop, Nat.add_zero, List.getElem?_eq_getElem hju, List.getElem?_eq_getElem hz] at this
    exact Option.some.inj this
  rw [e] at h1 h2
  rw [add_off] at h1 h2
  exact ⟨h1, h2⟩
theorem Kept.keep {base : Nat} {w : World} {g cap n i j : Nat} {ts us : List Tm} {t : Tm} (h : Kept base w g cap n i j ts us) (hz : j < ts.length) (hjn : j < n) (ht : ts[j] = t) (hc : t.c ≠ 0) :
    Kept base ((w.setCell ⟨g, i * 2, none⟩ (.int .i64 t.c)).setCell ⟨g, i * 2 + 1, none⟩ (.string t.s)) g cap n (i + 1) (j + 1) ts (us.set i t) := by
  have hiu : i < us.length := by rw [h.len]; have := h.hi; omega
  refine ⟨?_, by rw [List.length_set]; exact h.len, ?_, ?_, by have := h.hi; omega, by omega⟩
  · rw [← set_terms us i t hiu]
    exact ((h.own.stored (i * 2) (.int .i64 t.c)).1.stored (i * 2 + 1) (.string t.s)).1
  · rw [nzT_step hz ht, if_neg hc, ← h.head, List.take_add_one, List.getElem?_set_self hiu, List.take_set, List.set_eq_of_length_le (by rw [List.length_take]; omega)]
    rfl
  · have := congrArg (List.drop 1) h.tail
    rw [List.drop_drop, List.drop_drop] at this
    rw [List.drop_set, if_pos (by have := h.hi; omega)]
    exact this
theorem Kept.skip {base : Nat} {w : World} {g cap n i j : Nat} {ts us : List Tm} {t : Tm} (h : Kept base w g cap n i j ts us) (hz : j < ts.length) (hjn : j < n) (ht : ts[j] = t) (hc : t.c = 0) : Kept base w g cap n i (j + 1) ts us := by
  refine ⟨h.own, h.len, ?_, ?_, by have := h.hi; omega, by omega⟩
  · rw [nzT_step hz ht, if_pos hc, List.append_nil]; exact h.head
  · have := congrArg (List.drop 1) h.tail
    rw [List.drop_drop, List.drop_drop] at this
    exact this

end Go.Proofs.YtdhmicpoigoleabDoor

/- The contracts of the program's 'toldSum' and 'SumOf'. -/

namespace Go.Proofs.YtdhmicpoigoleabDoor
open Go.RowKit Go.Shelf

/-- What a call of the program answers that tells a sum. -/
def ITold (w : World) (b : Bool) (us : List Tm) (e : Ending) (w' : World) : Prop := (∃ v', e = .returned (.tuple #[v', .bool b]) ∧ OwnT w.heap.size w' v' (cond b us [])) ∧ Below w.heap.size w w'
theorem ownNil (base : Nat) (w : World) : OwnT base w (.slice none 0 0) [] := ⟨rfl, .inl ⟨rfl, rfl⟩⟩
/-- Terms that may be gathered: not too many, not too great, their words of whatever length. -/
theorem filter_small {ts : List Tm} {p : Tm → Bool} (h : SmallT ts) : SmallT (ts.filter p) :=
  ⟨Nat.le_trans (List.length_filter_le _ _) h.1, fun t ht => h.2 t (List.mem_filter.1 ht).1⟩
theorem push_words {acc : List Tm} {t : Tm} {M : Nat} (h : ∀ u ∈ acc, u.s.size ≤ M) (ht : t.s.size ≤ M) : ∀ u ∈ pushT acc t, u.s.size ≤ M := by
  intro u hu
  rcases List.eq_nil_or_concat acc with rfl | ⟨b, l, rfl⟩
  · rw [push_nil] at hu; rw [List.mem_singleton.1 hu]; exact ht
  · rw [List.concat_eq_append] at *
    rw [push_last] at hu
    have hl := h l (by simp)
    split at hu
    · rcases List.mem_append.1 hu with hu | hu
      · exact h u (by simp [hu])
      · rw [List.mem_singleton.1 hu]; exact hl
    · rcases List.mem_append.1 hu with hu | hu
      · exact h u hu
      · rw [List.mem_singleton.1 hu]; exact ht
theorem merge_words {M : Nat} : ∀ (ts acc : List Tm), (∀ u ∈ acc, u.s.size ≤ M) → (∀ u ∈ ts, u.s.size ≤ M) → ∀ u ∈ ts.foldl pushT acc, u.s.size ≤ M
  | [], _, h, _ => h
  | t :: r, acc, h, ht => merge_words r (pushT acc t) (push_words h (ht t (by simp))) (fun u hu => ht u (by simp [hu]))
theorem merge_small {ts : List Tm} (hn : ts.length ≤ 100000) (hc : ∀ t ∈ ts, -1000000000000 ≤ t.c ∧ t.c ≤ 1000000000000) (hs : ∀ t ∈ ts, t.s.size ≤ maxLen) : SmallT (mergeT ts) := by
  have h1 := merge_len ts ts.length
  have h2 := merge_bnd (C := 1000000000000) (by omega) hc ts.length
  rw [merge_all] at h1 h2
  refine ⟨by unfold maxLen; omega, fun t ht => ⟨merge_words ts [] (fun u h => by cases h) hs t ht, ?_⟩⟩
  have := h2 t ht
  omega

end Go.Proofs.YtdhmicpoigoleabDoor

/- A map copied, cleared, made with one entry; the contracts of the program's 'oneSeries' and 'told' (of a series). -/

namespace Go.Proofs.YtdhmicpoigoleabDoor
open Go.RowKit Go.Shelf Go.Maps Go.MapKept

def cloneS_ren : Go.Shelf.Ren := ⟨fun | 5 => 37 | 7 => 51 | n => n, fun | 23 => 35 | 25 => 57 | 3 => 3 | 4 => 4 | 20 => 20 | n => n, fun n => n⟩
theorem cloneS : SlLaysW.n5 Tryd.prog cloneS_ren := {
  mixed := by kernel_rfl
  f5 := Exists.intro "maps.Clone[loop.example/foxcalculus/impl.series,loop.example/foxcalculus/impl.monomial,int]" ⟨of_decide_eq_true (by kernel_rfl), Tryd.func37.trans (congrArg some (by kernel_rfl))⟩
  f7 := Tryd.func51.trans (congrArg some (by kernel_rfl))
  t4 := Tryd.underlying4
  a4 := Tryd.isAgg4
  z4 := Tryd.sizeOf4
  v4 := Tryd.zeroValue4
  t20 := Tryd.underlying20
  a20 := Tryd.isAgg20
  z20 := Tryd.sizeOf20
  v20 := Tryd.zeroValue20
  t23 := Tryd.underlying35
  a23 := Tryd.isAgg35
  z23 := Tryd.sizeOf35
  v23 := Tryd.zeroValue35 }
theorem clone_any (b : Nat) (ts : List Tm) (w : World) (h : MapT w b ts) :
    Calls Tryd.prog 37 #[.map (some b)] w fun e w' => e = .returned (.map (some w.heap.size)) ∧ MapT w' w.heap.size ts ∧ Below w.heap.size w w' := by
  obtain ⟨es, h, hq⟩ := h
  refine (AnyW.maps_Clone_owns cloneS MonT _ b _ _ w h).mono ?_
  rintro e w' ⟨rfl, h1, _, h2⟩
  exact ⟨rfl, ⟨es, h1, hq⟩, h2⟩

section
variable {ops : Array Oper} {rest : List Oper} {o : Oper} {a : Act} {Q : Exit → Act → World → Prop}
theorem wpList_clear_map (w : World) (hg : o.guard = none) (m : Operand) (hop : o.op = Op.call { callee := Callee.builtin Builtin.clear, args := #[m], argTypes := #[SerT] }) (b : Nat) (ts : List Tm) (hm : a.eval m = .map (some b)) (h : MapT w b ts)
    (hK : ∀ w', MapT w' b [] → w.grownBy w' (some b) → wpList Tryd.prog ops Q rest (a.put o.dst (.tuple #[])) w') : wpList Tryd.prog ops Q (o :: rest) a w := by
  obtain ⟨es, ⟨es', clock, hb, F, _, _⟩, _⟩ := h
  have hrun : (Builtin.clear_ #[SerT] o.type #[.map (some b)]).run Tryd.prog w = .ok (.tuple #[]) { w with heap := w.heap.setIfInBounds b (.map #[] clock) } := by
    simp [Builtin.clear_, run_underlying undSer, Go.MapKept.run_getObj_map hb, Go.MapKept.run_setObj_map _ hb, Result.andThen]
  refine wpList_plain hg fun K' hK' => ?_
  unfold Oper.wp
  simp [execOp, hop, resolve, invoke, builtin, hm, hrun, Result.andThen]
  exact hK' _ _ (hK _ ⟨[], ⟨#[], clock, (heap_set hb).1, ⟨by simp, stamped_empty _, by simp⟩, Nat.le_refl _, rfl⟩, .refl _⟩ ⟨rfl, rfl, rfl, by simp, fun k _ hk => (heap_set hb).2 k fun e => hk (by rw [e])⟩)
theorem wpList_insert_map (w : World) (hg : o.guard = none) (m x v : Operand) (hop : o.op = Op.insert SerT m x v) (b : Nat) (ts : List Tm) (hm : a.eval m = .map (some b)) (h : MapT w b ts) (hn : ts.length < maxLen) (s : ByteArray) (c : Int)
    (hx : a.eval x = .string s) (hv : a.eval v = .int .i64 c) (hs : s.size ≤ maxLen) (hc : (Lit.int .i64 c).wf = true)
    (hK : ∀ w', MapT w' b (putT ts s c) → w.grownBy w' (some b) → wpList Tryd.prog ops Q rest (a.put o.dst undef) w') : wpList Tryd.prog ops Q (o :: rest) a w := by
  obtain ⟨D, hown, hput⟩ := h.store
  refine wpList_plain hg fun K' hK' => ?_
  obtain ⟨w', hrun, r1, r2⟩ := hown.update lawMon undSer hn (key_mk hs) (plainElem_int (H := Unit) Tryd.underlying3 hc)
  unfold Oper.wp
  simp [execOp, hop, hm, hx, hv, hrun, Result.andThen]
  exact hK' _ _ (hK w' (hput s c w' r1) r2)
end

theorem oneSeries_any (w : World) : Calls Tryd.prog 26 #[] w fun e w' => (∃ b, e = .returned (.map (some b)) ∧ w.heap.size ≤ b ∧ MapT w' b [⟨1, { data := #[] }⟩]) ∧ Below w.heap.size w w' := by
  have hmm := @run_makeMap Tryd.prog
  have h0 := mapT_made w
  go_enter Tryd.func26, Tryd.ntmps26
  go_wp2_with (first | (refine wpList_insert_map _ rfl _ _ _ rfl w.heap.size [] rfl h0 (by simp [maxLen]) _ _ rfl rfl (Nat.zero_le _) (by decide) ?_; intro w1 h1 hg1) | go_in)
  go_ret
  exact ⟨⟨_, rfl, Nat.le_refl _, h1⟩, ((Below.refl _ w).alloc (Nat.le_refl _) _).grown hg1 (by simp) (fun k e => by cases e; exact Nat.le_refl _)⟩

/-! ### told -/
def nzT2 (ts : List Tm) : List Tm := ts.filter fun t => !(t.c == 0)
theorem nzT2_snoc (ts : List Tm) (c : Int) (s : ByteArray) : nzT2 (ts ++ [⟨c, s⟩]) = if c = 0 then nzT2 ts else nzT2 ts ++ [⟨c, s⟩] := by
  unfold nzT2
  rw [List.filter_append, List.filter_cons, List.filter_nil]
  by_cases h : c = 0
  · simp [h]
  · simp [h]
theorem sorted_canon {ss ts : List Tm} (ha : Apart ts) (hp : ss.Perm (nzT2 ts)) (hs : ss.Pairwise (fun a b => lessW b.s a.s = false)) : ss = canonT ts := by
  have hsub : Apart (nzT2 ts) := List.Pairwise.filter _ ha
  have hss : Apart ss := hsub.perm hp.symm
  refine canonT_unique ⟨?_, fun t ht => ?_⟩ fun s => ?_
  · have h2 := List.pairwise_iff_getElem.1 hss
    have h1 := List.pairwise_iff_getElem.1 hs
    refine List.pairwise_iff_getElem.2 fun i j hi hj hij => ?_
    cases h : lessW ss[i].s ss[j].s
    · exact absurd (lessW_tri h (h1 i j hi hj hij)) (h2 i j hi hj hij)
    · rfl
  · have := (List.mem_filter.1 (hp.mem_iff.1 ht)).2
    simpa using this
  · rw [coefAt_perm s hp]; exact coefAt_filter s ts

end Go.Proofs.YtdhmicpoigoleabDoor

/- The contract of the program's 'times' (of series). -/

namespace Go.Proofs.YtdhmicpoigoleabDoor
open Go.RowKit Go.Shelf

theorem put_fresh {ts : List Tm} {s : ByteArray} {v : Int} (h : ∀ t ∈ ts, t.s ≠ s) : putT ts s v = ⟨v, s⟩ :: ts := by
  unfold putT
  rw [filter_every fun t ht => by simp [h t ht]]
theorem canon_apart {ts : List Tm} (h : Canon ts) : Apart ts := h.1.imp fun hl => lessW_ne hl
theorem apart_fresh {ts : List Tm} (h : Apart ts) {k : Nat} (hk : k < ts.length) : ∀ t ∈ ts.take k, t.s ≠ ts[k].s := fun t ht => by
  obtain ⟨i, hi, rfl⟩ := List.getElem_of_mem ht
  rw [List.length_take] at hi
  rw [List.getElem_take]
  exact List.pairwise_iff_getElem.1 h i k (by omega) hk (by omega)
theorem take_perm {ts : List Tm} {k : Nat} (hk : k < ts.length) : (ts[k] :: ts.take k).Perm (ts.take (k + 1)) := by
  rw [List.take_succ_eq_append_getElem hk]
  exact List.perm_append_comm (l₁ := [ts[k]])

/-! ### times -/
set_option maxRecDepth 100000 in
set_option maxHeartbeats 4000000 in
theorem times_any (b b2 : Nat) (X Y : List Tm) (w : World) (hne : b ≠ b2) (hX : MapT w b X) (hY : MapT w b2 Y) (mX : MonoT X) (mY : MonoT Y) (cX : BndT 1000000 X) (cY : BndT 1000000 Y) :
    Calls Tryd.prog 20 #[.map (some b), .map (some b2)] w fun e w' => e = .returned (.tuple #[]) ∧ (∃ ts, MapT w' b ts ∧ MonoT ts ∧ ∀ k, coefAt k ts = coefAt k (pairsS X Y)) ∧ w.grownBy w' (some b) := by
  have hb := hX.lt
  have hb2 := hY.lt
  have hlX := apart_len341 hX.apart mX
  have hlY := apart_len341 hY.apart mY
  have HX := Lib.hid hX
  have HY := Lib.hid hY
  have MX := Lib.hid mX
  have MY := Lib.hid mY
  have CX := Lib.hid cX
  have CY := Lib.hid cY
  clear hX hY mX mY cX cY
  go_enter Tryd.func20, Tryd.ntmps20
  go_wp2_with fail
  refine (clone_any b X w HX.out).mono ?_
  rintro e w1 ⟨rfl, hc, hb1⟩
  have hcl := hc.lt
  obtain ⟨cb, hcb⟩ : ∃ cb, w.heap.size = cb := ⟨_, rfl⟩
  rw [hcb] at hc hcl ⊢
  have HC1 := Lib.hid hc
  have HX1 := Lib.hid (HX.out.below hb1)
  have HY1 := Lib.hid (HY.out.below hb1)
  have G1 : w.grownBy w1 (some b) := (grown_of_below hb1).but _
  have HG1 := Lib.hid G1
  have HCB := Lib.hid hcb
  have hbc : b < cb := by omega
  have hb2c : b2 < cb := by omega
  clear hc hb1 G1 hcb hb hb2
  go_wp2_with (first | (refine wpList_clear_map _ rfl _ rfl b X rfl HX1.out ?_; intro w2 h2 hg2) | (at_range; refine wpList_range_map _ rfl _ rfl b2 Y rfl (HY1.out.kept hg2 (by simp; omega)) ?_; intro w3 hrg3 hg3 hs3) | go_in)
  go_frame
  have hs2 := hg2.size
  obtain ⟨r, hr⟩ : ∃ r, w2.heap.size = r := ⟨_, rfl⟩
  rw [hr] at hrg3 hs3 ⊢
  have HC3 : MapT w3 cb X := (HC1.out.kept hg2 (by simp; omega)).kept hg3 (by simp)
  have H3 : MapT w3 b [] := h2.kept hg3 (by simp)
  have G3 : w.grownBy w3 (some b) := (HG1.out.andThen hg2 (fun j hj => by cases hj; exact Or.inr rfl)).andThen hg3 (fun j hj => by cases hj)
  have hrc : cb < r := by omega
  go_loopw [5] (fun _ wr => ∃ (done : List Tm) (cnt : Nat) (ts : List Tm), RangeT wr b2 r Y done cnt ∧ MapT wr cb X ∧ MapT wr b ts ∧ Hid (MonoT ts ∧ ∀ k, coefAt k ts = coefAt k (pairsQ done X)) ∧ w.grownBy wr (some b))
    (fun _ wr => wr.rangeLeft b2 r)
  case atStart => exact ⟨[], _, [], hrg3, HC3, H3, Lib.hid ⟨fun t ht => by (cases ht), fun _ => rfl⟩, G3⟩
  case round =>
    obtain ⟨done, cnt, ts, hrg, hC, hT, HF, hG⟩ := hrel
    have hcl := hrg.cnt
    have hdl := hrg.donelen
    have hrl := hrg.lt
    have HRG := Lib.hid hrg
    have HCC := Lib.hid hC
    have HTT := Lib.hid hT
    have HGG := Lib.hid hG
    clear hrg hC hT hG H3 G3 HC3 hrg3 hg3 h2 hg2
    go_wp2_with (first | (at_next; refine wpList_next_map _ rfl _ rfl b2 r Y done cnt rfl HRG.out ?_ ?_) | go_in)
    · intro hperm
      go_wp2
      go_end0
      refine ⟨rfl, ⟨ts, HTT.out, HF.out.1, fun k => ?_⟩, HGG.out⟩
      rw [HF.out.2, coefAt_perm k (pairsQ_perm X hperm), pairsQ_swap]
    · intro m y v1 cnt1 hmem hrg1 hlt hg1 hs1 hen
      have HCv := Lib.hid (HCC.out.kept hg1 (by simp; omega))
      have HTv := Lib.hid (HTT.out.kept hg1 (by simp; omega))
      have HGv := Lib.hid (HGG.out.andThen hg1 (fun j hj => by cases hj; exact Or.inl (by have := HCB.out; omega)))
      have HRv := Lib.hid hrg1
      have hym := MY.out _ hmem
      have hys : y.size ≤ 4 := mono_size hym
      have hyc := CY.out _ hmem
      have HYM := Lib.hid hym
      have HYC := Lib.hid hyc
      clear hmem hym hyc hrg1 hg1 HRG HCC HTT HGG
      go_wp2_with (first | (at_range; refine wpList_range_map _ rfl _ rfl cb X rfl HCv.out ?_; intro v2 hrg2 hg2 hs2) | go_in)
      try go_frame
      rw [hs1] at hrg2 hs2
      obtain ⟨r2, hr2⟩ : ∃ r2, wr.heap.size = r2 := ⟨_, rfl⟩
      rw [hr2] at hrg2 hs2 ⊢
      have hrr : r < r2 := by omega
      have HR2 : RangeT v2 b2 r Y (done ++ [⟨m, y⟩]) cnt1 := HRv.out.kept hg2 (by simp) (by simp)
      have HT2 : MapT v2 b ts := HTv.out.kept hg2 (by simp)
      have HG2 : w.grownBy v2 (some b) := HGv.out.andThen hg2 (fun j hj => by cases hj)
      go_loopw [7] (fun _ wr => ∃ (dX : List Tm) (cnt2 : Nat) (us : List Tm), RangeT wr cb r2 X dX cnt2 ∧ RangeT wr b2 r Y (done ++ [⟨m, y⟩]) cnt1 ∧ MapT wr b us ∧ Hid (MonoT us ∧ ∀ k, coefAt k us = coefAt k (pairsQ done X ++ rowQ ⟨m, y⟩ dX)) ∧ w.grownBy wr (some b))
        (fun _ wr => wr.rangeLeft cb r2)
      case atStart => exact ⟨[], _, ts, hrg2, HR2, HT2, Lib.hid ⟨HF.out.1, fun k => by rw [HF.out.2, coefAt_append]; simp [rowQ, coefAt]⟩, HG2⟩
      case round =>
        obtain ⟨dX, cnt2, us, hrgX, hrgY, hU, HU, hGr⟩ := hrel
        have hcl2 := hrgX.cnt
        have hdl2 := hrgX.donelen
        have HRX := Lib.hid hrgX
        have HRY := Lib.hid hrgY
        have HUU := Lib.hid hU
        have HGr := Lib.hid hGr
        clear hrgX hrgY hU hGr HR2 HT2 HG2 hrg2 hg2
        go_wp2_with (first | (at_next; refine wpList_next_map _ rfl _ rfl cb r2 X dX cnt2 rfl HRX.out ?_ ?_) | go_in)
        · intro hperm
          have hl1 := HRY.out.cnt
          go_wp2
          go_roundw
          case rel => exact ⟨_, cnt1, us, HRY.out, HRX.out.map, HUU.out, Lib.hid ⟨HU.out.1, fun k => by rw [HU.out.2, pairsQ_snoc, coefAt_append, coefAt_append, coefAt_perm k (rowQ_perm _ hperm)]⟩, HGr.out⟩
          case measure => rw [hl1, hcl]; exact hlt
        · intro n x v3 cnt3 hmem hrgX hlt2 hg3 hs3 hen2
          have HRX3 := Lib.hid hrgX
          have HRY3 := Lib.hid (HRY.out.kept hg3 (by simp; omega) (by simp; omega))
          have HU3 := Lib.hid (HUU.out.kept hg3 (by simp; omega))
          have HG3 := Lib.hid (HGr.out.andThen hg3 (fun j hj => by cases hj; exact Or.inl (by have := HCB.out; omega)))
          have hxm := MX.out _ hmem
          have hxs : x.size ≤ 4 := mono_size hxm
          have hxc := CX.out _ hmem
          have hsn := rowQ_snoc ⟨m, y⟩ dX ⟨n, x⟩
          have hl3 := hrgX.cnt
          clear hmem hrgX hg3 HRX HRY HUU HGr
          by_cases h4 : x.size + y.size ≤ 4
          · have hd4 : decide ((x.size : Int) + (y.size : Int) ≤ 4) = true := decide_eq_true (by omega)
            obtain ⟨q, hq⟩ : ∃ q, x ++ y = q := ⟨_, rfl⟩
            have hqs : q.size = x.size + y.size := by rw [← hq]; exact ByteArray.size_append
            have hnot : ¬ 9223372036854775807 < x.size + y.size := by omega
            have hqm : q.size ≤ maxLen := by unfold maxLen; omega
            have hqmono : monoB q = true := by rw [← hq]; exact mono_append hxm HYM.out (by rw [hq]; omega)
            have hsn' : rowQ ⟨m, y⟩ (dX ++ [⟨n, x⟩]) = rowQ ⟨m, y⟩ dX ++ [⟨n * m, q⟩] := by rw [hsn, hq, if_pos (by omega)]
            have hmb := mul_bnd hxc HYC.out
            simp only at hmb
            obtain ⟨d, hd⟩ : ∃ d, n * m = d := ⟨_, rfl⟩
            rw [hd] at hmb hsn'
            have hmul : IntKind.i64.wrap (n * m) = d := by rw [hd]; exact IntWalk.i64_in _ (by omega)
            obtain ⟨z, hz⟩ : ∃ z, coefAt q us = z := ⟨_, rfl⟩
            have hzb : -120000000000000000 ≤ z ∧ z ≤ 120000000000000000 := by
              rw [← hz, HU.out.2]
              have hbq : BndT 1000000000000 (pairsQ done X ++ rowQ ⟨m, y⟩ dX) := fun t ht => by
                rcases List.mem_append.1 ht with ht | ht
                · exact bndQQ CX.out (fun u hu => CY.out u (HRY3.out.sub u (List.mem_append.2 (.inl hu)))) t ht
                · exact bndQ (fun u hu => CX.out u (HRX3.out.sub u (List.mem_append.2 (.inl hu)))) HYC.out t ht
              have h1 := coef_bnd (by omega) q hbq
              have h2 := pairsQ_len X done
              have h3 := rowQ_len ⟨m, y⟩ dX
              have h5 : done.length * X.length ≤ 341 * 341 := Nat.mul_le_mul (by omega) hlX
              have h6 : (pairsQ done X ++ rowQ ⟨m, y⟩ dX).length ≤ 341 * 341 + 341 := by rw [List.length_append]; omega
              omega
            have hadd : IntKind.i64.wrap (z + d) = z + d := IntWalk.i64_in _ (by omega)
            have hwf : (Lit.int .i64 (z + d)).wf = true := by
              simp only [Lit.wf, Bool.and_eq_true, decide_eq_true_eq]
              have e1 : IntKind.i64.min = -9223372036854775808 := by decide
              have e2 : IntKind.i64.max = 9223372036854775807 := by decide
              omega
            have hul : us.length < maxLen := by have := apart_len341 HU3.out.apart HU.out.1; unfold maxLen; omega
            have HSN := Lib.hid hsn'
            have HQM := Lib.hid hqmono
            have HZ := Lib.hid hz
            have HUL := Lib.hid hul
            have HWF := Lib.hid hwf
            have HQS := Lib.hid hqs
            clear hsn hsn' hqmono hmb hzb hxc hxm hul hwf hd hqs
            go_wp2_with (first | (refine wpList_lookup_map _ rfl _ _ rfl b us rfl HU3.out q rfl hqm ?_; rw [HZ.out]) | (refine wpList_update_map _ rfl _ _ _ rfl b us rfl HU3.out HUL.out q (z + d) rfl rfl hqm HWF.out ?_; intro v5 h5 hg5; simp only [Act.put]) | go_in)
            have hR5 := HRX3.out.kept hg5 (by simp; omega) (by simp; omega)
            have hl5 := hR5.cnt
            go_roundw
            case rel =>
              refine ⟨_, cnt3, _, hR5, HRY3.out.kept hg5 (by simp; omega) (by simp; omega), h5, Lib.hid ⟨mono_put HU.out.1 HQM.out, fun k => ?_⟩, HG3.out.andThen hg5 (fun j hj => by cases hj; exact Or.inr rfl)⟩
              rw [HSN.out, ← List.append_assoc, ← put_add q d HU.out.2 k, HZ.out]
            case measure => rw [hl5, hcl2]; exact hlt2
          · have hd4 : decide ((x.size : Int) + (y.size : Int) ≤ 4) = false := decide_eq_false (by omega)
            rw [if_neg (by simp only [ByteArray.size_append]; omega), List.append_nil] at hsn
            have HSN := Lib.hid hsn
            clear hsn hxc hxm
            go_wp2
            go_roundw
            case rel => exact ⟨_, cnt3, us, HRX3.out, HRY3.out, HU3.out, Lib.hid ⟨HU.out.1, fun k => by rw [HSN.out]; exact HU.out.2 k⟩, HG3.out⟩
            case measure => rw [hl3, hcl2]; exact hlt2

end Go.Proofs.YtdhmicpoigoleabDoor

/- The contract of the program's 'told' (of a series). -/

namespace Go.Proofs.YtdhmicpoigoleabDoor
open Go.RowKit Go.Shelf Go.Maps Go.MapKept

set_option maxRecDepth 100000 in
set_option maxHeartbeats 2000000 in
theorem seriesTold_any (b : Nat) (ts : List Tm) (r : Bool) (w : World) (h : MapT w b ts) (hl : ts.length ≤ 1000) (hb : twS (canonT ts) = r) :
    Calls Tryd.prog 15 #[.map (some b)] w (ITold w r (canonT ts)) := by
  obtain ⟨i0, hi, hz0, hz1, hz2⟩ := info_parts infoTerm
  have hsm := h.small
  have hap := h.apart
  have hbl := h.lt
  have HSM := Lib.hid hsm
  have HAP := Lib.hid hap
  have HBB := Lib.hid hb
  have HL := Lib.hid hl
  clear hsm hap hb
  go_enter Tryd.func15, Tryd.ntmps15
  go_wp2_with (first | (at_range; refine wpList_range_map _ rfl _ rfl b ts rfl h ?_; intro w0 hrg0 hg0 hs0) | go_in)
  go_frame
  go_loopw [4] (fun v wr => ∃ (done : List Tm) (cnt : Nat), RangeT wr b w.heap.size ts done cnt ∧ Hid (OwnT w0.heap.size wr v (nzT2 done)) ∧ w0.heap.size ≤ wr.heap.size ∧ Below w.heap.size w wr)
    (fun _ wr => wr.rangeLeft b w.heap.size)
  case atStart => exact ⟨[], _, hrg0, Lib.hid ⟨rfl, .inl ⟨rfl, rfl⟩⟩, Nat.le_refl _, (Below.refl _ _).grown hg0 (Nat.le_refl _) (fun k e => by cases e)⟩
  case round =>
    obtain ⟨done, cnt, hrg, HO, hsz, hB⟩ := hrel
    have hlow0 := Lib.hid (ownsRow_low HO.out)
    have hcl := hrg.cnt
    have hdl := hrg.donelen
    have HRG := Lib.hid hrg
    go_wp2_with (first | (at_next; refine wpList_next_map _ rfl _ rfl b w.heap.size ts done cnt rfl HRG.out ?_ ?_) | go_in)
    · intro hperm
      have hsd : SmallT (nzT2 done) := ⟨by have := List.length_filter_le (fun t : Tm => !(t.c == 0)) done; unfold nzT2 maxLen; omega, fun t ht => HSM.out.2 t (hperm.mem_iff.1 (List.mem_filter.1 ht).1)⟩
      have hld : (nzT2 done).length ≤ 1000000 := by have := List.length_filter_le (fun t : Tm => !(t.c == 0)) done; unfold nzT2; omega
      obtain ⟨a1, c1, rfl, _⟩ := HO.out.isTerms hsd
      have HSO := Lib.hid (sortOwn_any w0.heap.size _ _ (nzT2 done) wr rfl hld hsz HO.out)
      have HPM := Lib.hid hperm
      have HSD := Lib.hid hsd
      clear hrg hperm hsd hld hlow0
      go_wp2_with fail
      refine HSO.out.mono ?_
      rintro e w2 ⟨rfl, ⟨ss, hp, hso, ho⟩, hb2⟩
      have hsc : ss = canonT ts := by
        rw [sorted_canon (HAP.out.perm HPM.out.symm) hp hso]
        exact canon_same fun k => coefAt_perm k HPM.out
      have hlen : ss.length = (nzT2 done).length := hp.length_eq
      have ho' : OwnT w0.heap.size w2 (.slice a1 (nzT2 done).length c1) ss := by unfold OwnT; rw [hlen]; exact ho
      have hss : SmallT ss := ⟨by rw [hlen]; exact HSD.out.1, fun t ht => HSD.out.2 t (hp.mem_iff.1 ht)⟩
      obtain ⟨a2, c2, e2, hI⟩ := ho'.isTerms hss
      injection e2 with ea en ec
      subst ea ec
      rw [en] at ho'
      have HI := Lib.hid hI
      have HO2 := Lib.hid ho'
      have hb2w : Below w.heap.size w w2 := hB.trans (hb2.mono (by have := hs0; omega))
      have HB2 := Lib.hid hb2w
      have hser : serB ss = r := by rw [hsc, serB_canon (canon_of ts)]; exact HBB.out
      have HSB := Lib.hid hser
      have HSC := Lib.hid hsc
      clear hp hso ho ho' hss hI hb2 hb2w hser hsc hlen
      go_wp2_with fail
      refine (iSeriesIn_is a1 c1 _ ss r w2 HI.out HSB.out).mono ?_
      rintro e w3 ⟨rfl, hb3⟩
      have HB3 := Lib.hid hb3
      clear hb3
      cases r
      · go_wp2
        go_ret2
        exact ⟨⟨_, rfl, ownNil _ _⟩, HB2.out.trans (HB3.out.mono HB2.out.size)⟩
      · go_wp2
        go_ret2
        refine ⟨⟨_, rfl, ?_⟩, HB2.out.trans (HB3.out.mono HB2.out.size)⟩
        rw [show cond true (canonT ts) [] = canonT ts from rfl, ← HSC.out]
        exact (HO2.out.below HB3.out).mono (by omega)
    · intro c s w1 cnt1 hmem hrg1 hlt hg1 hs1 hen
      have hB1 : Below w.heap.size w w1 := hB.grown hg1 hB.size (fun k e => by cases e; exact Nat.le_refl _)
      have ho1 : OwnT w0.heap.size w1 u4 (nzT2 done) := HO.out.kept hg1 (.inr fun e => by have := hlow0.out _ e; omega)
      have hsn := nzT2_snoc done c s
      have HO1 := Lib.hid ho1
      have HM := Lib.hid hmem
      have HR1 := Lib.hid hrg1
      have hl1 := hrg1.cnt
      clear hrg ho1 hmem hrg1 hg1
      by_cases hc0 : c = 0
      · rw [if_pos hc0] at hsn
        have hdc : (c == 0) = true := by simpa using hc0
        clear hc0
        have HSN := Lib.hid hsn
        clear hsn
        go_wp2
        go_roundw
        case rel => exact ⟨_, cnt1, HR1.out, Lib.hid (by rw [HSN.out]; exact HO1.out), by omega, hB1⟩
        case measure => rw [hl1, hcl]; exact hlt
      · rw [if_neg hc0] at hsn
        have hdc : (c == 0) = false := by simpa using hc0
        clear hc0
        have HSN := Lib.hid hsn
        clear hsn
        obtain ⟨N, hN⟩ : ∃ N, (nzT2 done).length = N := ⟨_, rfl⟩
        have hown : w1.ownsRow w0.heap.size TI 2 u4 N (termsV (nzT2 done)) := by rw [← hN]; exact HO1.out
        have HOW := Lib.hid hown
        have hNl : N ≤ 1000 := by have := List.length_filter_le (fun t : Tm => !(t.c == 0)) done; rw [← hN]; unfold nzT2; omega
        have HN := Lib.hid hN
        have hblt := hbl
        have hle01 : w0.heap.size ≤ w1.heap.size := by omega
        have HS1 := Lib.hid hs1
        clear hown hN HO1 hs1
        go_wp2_with (at_builtin; refine wpList_append_lies _ rfl _ _ _ rfl w0.heap.size TI i0 _ 2 24 Tryd.underlying23 hi hz0 hz1 hz2 rfl (by omega) u4 N (termsV (nzT2 done)) rfl (HOW.out.alloc _) ⟨w1.heap.size, 0, none⟩ 1 1 [.int .i64 c, .string s] rfl rfl (World.news_of_block (cs := #[.int .i64 c, .string s]) (t := TI) (fr := (0, 0)) (heap_alloc_new w1 _)) (by simp [Value.oneCell']) (by omega) (by unfold maxLen; omega) (by omega) (by simp; omega) (w1.heap.size + 1) (by simp) ?_; intro gg cap1 w7 hown7 hgrow7 hat hlt7)
        have hs1 := HS1.out
        have hlow := ownsRow_low HOW.out
        have hbA : Below w1.heap.size w1 (w1.alloc (.cells #[.int .i64 c, .string s] TI)) := (Below.refl _ w1).alloc (Nat.le_refl _) _
        have hR7 : RangeT w7 b w.heap.size ts (done ++ [⟨c, s⟩]) cnt1 := (HR1.out.kept (grown_of_below hbA) (by simp) (by simp)).kept hgrow7 (fun e => by have := hlow _ e.symm; omega) (fun e => by have := hlow _ e.symm; omega)
        have hB7 : Below w.heap.size w w7 := (hB1.trans (hbA.mono hB1.size)).grown hgrow7 (by simp; omega) (fun k e => by have := hlow _ e; omega)
        have hs7 : w0.heap.size ≤ w7.heap.size := by have := hgrow7.size; simp at this; omega
        have HO7 := Lib.hid hown7
        have HR7 := Lib.hid hR7
        have hl7 := hR7.cnt
        clear hown7 hgrow7 hat hlt7 hlow hbA hR7
        go_wp2
        go_roundw
        case rel =>
          refine ⟨_, cnt1, HR7.out, Lib.hid ?_, hs7, hB7⟩
          rw [HSN.out]
          unfold OwnT
          rw [List.length_append, HN.out, termsV_append]
          exact HO7.out
        case measure => rw [hl7, hcl]; exact hlt

end Go.Proofs.YtdhmicpoigoleabDoor

/- The contracts of the program's 'seriesOf' and 'SeriesTimes'. -/

namespace Go.Proofs.YtdhmicpoigoleabDoor
open Go.RowKit Go.Shelf

set_option maxRecDepth 100000 in
set_option maxHeartbeats 2000000 in
theorem seriesOf_no (a : Option Addr) (cap n : Nat) (ts : List Tm) (w : World) (hs : IsTerms w a n ts) (hb : serB ts = false) :
    Calls Tryd.prog 12 #[.slice a n cap] w fun e w' => e = .returned (.tuple #[.map none, .bool false]) ∧ Below w.heap.size w w' := by
  have HS := Lib.hid hs
  have HB := Lib.hid hb
  clear hs hb
  go_enter Tryd.func12, Tryd.ntmps12
  go_wp2_with fail
  refine (iSeriesIn_is a cap n ts false _ HS.out HB.out).mono ?_
  rintro e w1 ⟨rfl, hb1⟩
  go_wp2
  go_ret2
  exact ⟨rfl, hb1⟩

set_option maxRecDepth 100000 in
set_option maxHeartbeats 4000000 in
theorem seriesOf_yes (a : Option Addr) (cap n : Nat) (ts : List Tm) (w : World) (hs : IsTerms w a n ts) (hb : serB ts = true) :
    Calls Tryd.prog 12 #[.slice a n cap] w fun e w' => ∃ b, e = .returned (.tuple #[.map (some b), .bool true]) ∧ w.heap.size ≤ b ∧ MapT w' b ts ∧ Below w.heap.size w w' := by
  have hmm := @run_makeMap Tryd.prog
  obtain ⟨hlen, hpt, hcan⟩ := serB_parts hb
  have HAP := Lib.hid (canon_apart hcan)
  have HPT := Lib.hid hpt
  have HN := Lib.hid hs.len
  have HS := Lib.hid hs
  have HB := Lib.hid hb
  rw [hs.len] at hlen
  clear hs hb hpt hcan
  go_enter Tryd.func12, Tryd.ntmps12
  go_wp2_with fail
  refine (iSeriesIn_is a cap n ts true _ HS.out HB.out).mono ?_
  rintro e w1 ⟨rfl, hb1⟩
  have h0 := mapT_made w1
  have hB1 : Below w.heap.size w (w1.alloc (.map #[] 0)) := hb1.alloc hb1.size _
  have hs1 := hb1.size
  obtain ⟨mb, hmb⟩ : ∃ mb, w1.heap.size = mb := ⟨_, rfl⟩
  rw [hmb] at h0 hs1
  have HMB := Lib.hid hmb
  clear hb1
  go_wp2_with fail
  try simp only [HMB.out]
  clear hmb
  go_loopw [13] (fun i wr => ∃ k : Nat, k ≤ n ∧ i = .int .i64 k ∧ MapT wr mb (ts.take k) ∧ Below w.heap.size w wr) (fun i _ => n - (intOf i).toNat)
  case atStart => exact ⟨0, Nat.zero_le _, rfl, h0, hB1⟩
  case round =>
    obtain ⟨k, hk, rfl, hT, hB⟩ := hrel
    by_cases hlt : k < n
    · have hkz : k < ts.length := by rw [HN.out]; exact hlt
      obtain ⟨x, rfl, hx⟩ := HS.out.at_ (by omega)
      obtain ⟨t, ht⟩ : ∃ t, ts[k] = t := ⟨_, rfl⟩
      have hc := (hx.below hB).2 k hkz
      rw [ht, addr_next] at hc
      obtain ⟨hc0, hc1⟩ := hc
      have hsm := HS.out.small _ (List.getElem_mem hkz)
      have hfr := apart_fresh HAP.out hkz
      have htp := take_perm hkz
      rw [ht] at hsm hfr htp
      have hwf : (Lit.int .i64 t.c).wf = true := by
        simp only [Lit.wf, Bool.and_eq_true, decide_eq_true_eq]
        have e1 : IntKind.i64.min = -9223372036854775808 := by decide
        have e2 : IntKind.i64.max = 9223372036854775807 := by decide
        have h5 := (HPT.out _ (List.getElem_mem hkz)).2.1
        rw [ht] at h5
        omega
      have hul : (ts.take k).length < maxLen := by rw [List.length_take]; unfold maxLen; omega
      have HSM := Lib.hid hsm.1
      have HFR := Lib.hid (put_fresh (v := t.c) hfr)
      have HTP := Lib.hid htp
      have HWF := Lib.hid hwf
      have HUL := Lib.hid hul
      have HB := Lib.hid hB
      have hTa := hT.kept (grown_of_below ((Below.refl _ wr).alloc (Nat.le_refl _) (.cells #[.int .i64 t.c, .string t.s] TI))) (by simp)
      have HT := Lib.hid hT
      have HTA := Lib.hid hTa
      clear hx ht hsm hfr htp hwf hul hB hT hTa h0 hB1
      go_wp2_with (first | (refine wpList_update_map _ rfl _ _ _ rfl mb (ts.take k) rfl HTA.out HUL.out t.s t.c rfl rfl HSM.out HWF.out ?_; intro v5 h5 hg5; simp only [Act.put]) | (refine wpList_update_map _ rfl _ _ _ rfl mb (ts.take k) rfl HT.out HUL.out t.s t.c rfl rfl HSM.out HWF.out ?_; intro v5 h5 hg5; simp only [Act.put]) | go_in)
      go_roundw
      case rel =>
        refine ⟨k + 1, by omega, by go_num, ?_, ?_⟩
        · rw [HFR.out] at h5
          exact h5.perm HTP.out
        · first
          | exact (HB.out.alloc HB.out.size _).grown hg5 (by have := HB.out.size; simp; omega) (fun j ej => by cases ej; exact hs1)
          | exact HB.out.grown hg5 HB.out.size (fun j ej => by cases ej; exact hs1)
      case measure => simp [intOf]; omega
    · obtain rfl : k = n := by omega
      rw [List.take_of_length_le (by rw [HN.out]; exact Nat.le_refl _)] at hT
      go_wp2
      go_ret2
      exact ⟨_, rfl, hs1, hT, hB⟩

/-! ### SeriesTimes -/
set_option maxRecDepth 100000 in
set_option maxHeartbeats 4000000 in
theorem iSeriesTimes_no (a1 a2 : Option Addr) (c1 c2 n m : Nat) (x y : List Tm) (w : World) (hx : IsTerms w a1 n x) (hy : IsTerms w a2 m y) (hb : serB x = false ∨ serB y = false) :
    Calls Tryd.prog 8 #[.slice a1 n c1, .slice a2 m c2] w (ITold w false []) := by
  have HX := Lib.hid hx
  have HY := Lib.hid hy
  clear hx hy
  cases hbx : serB x with
  | false =>
    have HBX := Lib.hid hbx
    clear hbx hb
    go_enter Tryd.func8, Tryd.ntmps8
    go_wp2_with fail
    refine (seriesOf_no a1 c1 n x _ HX.out HBX.out).mono ?_
    rintro e w1 ⟨rfl, hb1⟩
    go_wp2
    go_ret2
    exact ⟨⟨_, rfl, ownNil _ _⟩, hb1⟩
  | true =>
    have hby : serB y = false := by rcases hb with h | h; · rw [h] at hbx; cases hbx
                                    · exact h
    have HBX := Lib.hid hbx
    have HBY := Lib.hid hby
    clear hbx hby hb
    go_enter Tryd.func8, Tryd.ntmps8
    go_wp2_with fail
    refine (seriesOf_yes a1 c1 n x _ HX.out HBX.out).mono ?_
    rintro e w1 ⟨b1, rfl, _, _, hb1⟩
    have HB1 := Lib.hid hb1
    clear hb1
    go_wp2_with fail
    refine (seriesOf_no a2 c2 m y _ (HY.out.below HB1.out) HBY.out).mono ?_
    rintro e w2 ⟨rfl, hb2⟩
    have HB2 := Lib.hid (HB1.out.trans (hb2.mono HB1.out.size))
    clear hb2
    go_wp2
    go_ret2
    exact ⟨⟨_, rfl, ownNil _ _⟩, HB2.out⟩

theorem ser_mono {ts : List Tm} (h : serB ts = true) : MonoT ts := fun t ht => ((serB_parts h).2.1 t ht).2.2
theorem ser_bnd {ts : List Tm} (h : serB ts = true) : BndT 1000000 ts := fun t ht => ((serB_parts h).2.1 t ht).2.1

set_option maxRecDepth 100000 in
set_option maxHeartbeats 4000000 in
theorem iSeriesTimes_yes (a1 a2 : Option Addr) (c1 c2 n m : Nat) (x y : List Tm) (b : Bool) (w : World) (hx : IsTerms w a1 n x) (hy : IsTerms w a2 m y) (hbx : serB x = true) (hby : serB y = true) (hb : twS (canonT (pairsS x y)) = b) :
    Calls Tryd.prog 8 #[.slice a1 n c1, .slice a2 m c2] w (ITold w b (canonT (pairsS x y))) := by
  have HX := Lib.hid hx
  have HY := Lib.hid hy
  have HBX := Lib.hid hbx
  have HBY := Lib.hid hby
  have HBB := Lib.hid hb
  clear hx hy hbx hby hb
  go_enter Tryd.func8, Tryd.ntmps8
  go_wp2_with fail
  refine (seriesOf_yes a1 c1 n x _ HX.out HBX.out).mono ?_
  rintro e w1 ⟨b1, rfl, hl1, hm1, hb1⟩
  have HM1 := Lib.hid hm1
  have HB1 := Lib.hid hb1
  clear hm1 hb1
  go_wp2_with fail
  refine (seriesOf_yes a2 c2 m y _ (HY.out.below HB1.out) HBY.out).mono ?_
  rintro e w2 ⟨b2, rfl, hl2, hm2, hb2⟩
  have HN12 := Lib.hid (show b1 ≠ b2 by have := HM1.out.lt; omega)
  have HM12 := Lib.hid (HM1.out.below hb2)
  have HM2 := Lib.hid hm2
  have HB2 := Lib.hid (HB1.out.trans (hb2.mono HB1.out.size))
  clear hm2 hb2
  go_wp2_with fail
  refine (times_any b1 b2 x y _ HN12.out HM12.out HM2.out (ser_mono HBX.out) (ser_mono HBY.out) (ser_bnd HBX.out) (ser_bnd HBY.out)).mono ?_
  rintro e w3 ⟨rfl, ⟨ts, hT, hmt, hco⟩, hg⟩
  have hlt := apart_len341 hT.apart hmt
  have HB3 := Lib.hid (HB2.out.grown hg HB2.out.size (fun j ej => by cases ej; exact hl1))
  have HC := Lib.hid (canon_same hco)
  have HT := Lib.hid hT
  have hs3 := HB3.out.size
  clear hT hmt hco hg
  go_wp2_with fail
  refine (seriesTold_any b1 ts b _ HT.out (by omega) (by rw [HC.out]; exact HBB.out)).mono ?_
  rintro e w4 ⟨⟨v, rfl, ho⟩, hb4⟩
  rw [HC.out] at ho
  have HO := Lib.hid ho
  have HB4 := Lib.hid (HB3.out.trans (hb4.mono hs3))
  clear ho hb4
  go_wp2
  go_ret2
  exact ⟨⟨_, rfl, HO.out.mono hs3⟩, HB4.out⟩

/-! ### As a law wants them -/
theorem iSeriesTimes_law {g1 g2 c1 c2 n m : Nat} {x y : List Tm} {b : Bool} {w : World} (hx : IsTerms w (some ⟨g1, 0, none⟩) n x) (hy : IsTerms w (some ⟨g2, 0, none⟩) m y) (hb : serProdB x y = b) :
    Calls Tryd.prog 8 #[.slice (some ⟨g1, 0, none⟩) n c1, .slice (some ⟨g2, 0, none⟩) m c2] w (ITold w b (canonT (pairsS x y))) := by
  unfold serProdB at hb
  cases hbx : serB x with
  | false => rw [hbx] at hb; subst hb; exact iSeriesTimes_no _ _ _ _ _ _ x y w hx hy (.inl hbx)
  | true =>
    cases hby : serB y with
    | false => rw [hbx, hby] at hb; subst hb; exact iSeriesTimes_no _ _ _ _ _ _ x y w hx hy (.inr hby)
    | true => rw [hbx, hby] at hb; exact iSeriesTimes_yes _ _ _ _ _ _ x y b w hx hy hbx hby hb

end Go.Proofs.YtdhmicpoigoleabDoor

/- The coefficient of 1 in products and in the series of a word; the depth out of the second term. -/

namespace Go.Proofs.YtdhmicpoigoleabDoor
open Go.RowKit

abbrev noS : ByteArray := { data := #[] }
theorem no_iff {s : ByteArray} : s = noS ↔ s.size = 0 := ⟨fun h => by rw [h]; rfl, fun h => bytes_ext (by rw [List.eq_nil_of_length_eq_zero (show s.data.toList.length = 0 by simpa using h)])⟩
theorem no_row (t : Tm) : ∀ y : List Tm, coefAt noS (rowS t y) = if t.s = noS then t.c * coefAt noS y else 0
  | [] => by simp [rowS, coefAt]
  | u :: r => by
    have e1 : coefAt noS ([pairS t u].filter short) = if t.s = noS ∧ u.s = noS then t.c * u.c else 0 := by
      have hz : (pairS t u).s = noS ↔ t.s = noS ∧ u.s = noS := by
        rw [no_iff, no_iff, no_iff]; unfold pairS; rw [append_size]; omega
      rw [List.filter_cons, List.filter_nil]
      by_cases hs : t.s = noS ∧ u.s = noS
      · rw [if_pos hs, if_pos (show short (pairS t u) = true from decide_eq_true (by rw [no_iff.1 (hz.2 hs)]; omega)), coefAt, if_pos (hz.2 hs)]; simp [coefAt, pairS]
      · rw [if_neg hs]
        split
        · rw [coefAt, if_neg (fun h => hs (hz.1 h))]; rfl
        · rfl
    rw [rowS_cons, coefAt_append, e1, no_row t r, coefAt]
    by_cases ht : t.s = noS <;> by_cases hu : u.s = noS <;> simp [ht, hu, Int.mul_add]
theorem no_pairs : ∀ x y : List Tm, coefAt noS (pairsS x y) = coefAt noS x * coefAt noS y
  | [], y => by simp [pairsS, coefAt]
  | t :: r, y => by
    have e : pairsS (t :: r) y = rowS t y ++ pairsS r y := by unfold pairsS rowS; rw [List.flatMap_cons]
    rw [e, coefAt_append, no_row, no_pairs r y, coefAt, Int.add_mul]
    by_cases ht : t.s = noS <;> simp [ht]
theorem letS_no_facts : ∀ n : Fin 8, coefAt noS (letS (UInt8.ofNat (if n.val < 4 then 97 + n.val else 61 + n.val))) = 1 := by decide +kernel
theorem letS_no {c : UInt8} (hc : letB c = true) : coefAt noS (letS c) = 1 := let_cases (P := fun c => coefAt noS (letS c) = 1) letS_no_facts hc
theorem serW_no (l : List UInt8) : letL l = true → coefAt noS (serW l) = 1 := by
  generalize hn : l.length = n
  induction n generalizing l with
  | zero => intro _; rw [List.length_eq_zero_iff.1 hn]; decide
  | succ n ih =>
    intro hl
    obtain ⟨p, c, rfl⟩ := last_split l (by omega)
    rw [letL_append, Bool.and_eq_true] at hl
    have hp : p.length = n := by rw [List.length_append] at hn; simp at hn; exact hn
    rw [serW_snoc, (canonT_spec _).2, no_pairs, ih p hp hl.1, letS_no (by have := hl.2; simp [letL] at this; exact this)]; rfl
theorem less_no {a : ByteArray} : lessW a noS = false := by
  by_cases h : a = noS
  · rw [h]; exact lessW_irrefl _
  · have h0 : ¬ a.size = 0 := fun e => h (no_iff.2 e)
    unfold lessW
    rw [if_neg (show ¬ a.size = noS.size from h0)]
    exact decide_eq_false (by show ¬ a.size < 0; omega)
theorem canon_first {ts : List Tm} (hc : Canon ts) (h1 : coefAt noS ts = 1) : ∃ u r, ts = u :: r ∧ u.s = noS ∧ u.c = 1 ∧ ∀ t ∈ r, t.s.size ≠ 0 := by
  cases ts with
  | nil => simp [coefAt] at h1
  | cons u r =>
    obtain ⟨h2, h3⟩ := List.pairwise_cons.1 hc.1
    have hr : ∀ t ∈ r, t.s.size ≠ 0 := fun t ht h0 => by
      have := h2 t ht
      rw [no_iff.2 h0, less_no] at this
      cases this
    have hu : u.s = noS := by
      by_cases h : u.s = noS
      · exact h
      · rw [coefAt_none (fun t ht e => by
          rcases List.mem_cons.1 ht with rfl | ht
          · exact h e
          · exact hr t ht (no_iff.1 e))] at h1
        cases h1
    refine ⟨u, r, rfl, hu, ?_, hr⟩
    rw [coefAt, if_pos hu, coefAt_none (fun t ht e => hr t ht (no_iff.1 e))] at h1
    omega
theorem depth_one {ts : List Tm} (hc : Canon ts) (h1 : coefAt noS ts = 1) (hl : ts.length = 1) : depthT ts = 0 := by
  obtain ⟨u, r, rfl, hu, _, _⟩ := canon_first hc h1
  have : r = [] := List.eq_nil_of_length_eq_zero (by simpa using hl)
  subst this
  rw [depthT, if_pos (no_iff.1 hu)]; rfl
theorem depth_two {ts : List Tm} (hc : Canon ts) (h1 : coefAt noS ts = 1) (hl : 1 < ts.length) : depthT ts = ts[1].s.size := by
  obtain ⟨u, r, rfl, hu, _, hr⟩ := canon_first hc h1
  cases r with
  | nil => simp at hl
  | cons t r =>
    rw [depthT, if_pos (no_iff.1 hu), depthT, if_neg (hr t (by simp))]
    rfl
theorem first_pos {ts : List Tm} (hc : Canon ts) (h1 : coefAt noS ts = 1) : 0 < ts.length := by
  obtain ⟨u, r, rfl, _⟩ := canon_first hc h1
  simp

end Go.Proofs.YtdhmicpoigoleabDoor

/- Products of series depend on the coefficients alone. -/

namespace Go.Proofs.YtdhmicpoigoleabDoor
open Go.RowKit

/-- The sum of coefficients times what a function says of their texts. -/
def linT (f : ByteArray → Int) : List Tm → Int
  | [] => 0
  | t :: r => t.c * f t.s + linT f r
theorem linT_append (f : ByteArray → Int) (a b : List Tm) : linT f (a ++ b) = linT f a + linT f b := by
  induction a with
  | nil => simp [linT]
  | cons t r ih => rw [List.cons_append, linT, linT, ih]; omega
theorem linT_nz (f : ByteArray → Int) (t : Tm) : linT f (nz t) = t.c * f t.s := by
  unfold nz
  by_cases h : t.c = 0
  · rw [if_pos h, h]; simp [linT]
  · rw [if_neg h]; simp [linT]
theorem linT_add (f : ByteArray → Int) (t : Tm) : ∀ ts, linT f (addT ts t) = linT f ts + t.c * f t.s
  | [] => by rw [addT, linT_nz, linT]; omega
  | x :: r => by
    rw [addT]
    by_cases h : lessW x.s t.s = true
    · rw [if_pos h, linT, linT, linT_add f t r]; omega
    · rw [if_neg h]
      by_cases h2 : x.s = t.s
      · rw [if_pos h2, linT_append, linT_nz, linT, h2]
        show (t.c + x.c) * f t.s + linT f r = x.c * f t.s + linT f r + t.c * f t.s
        rw [Int.add_mul]; omega
      · rw [if_neg h2, linT_append, linT_nz, linT]; omega
theorem linT_fold (f : ByteArray → Int) : ∀ ts acc, linT f (ts.foldl addT acc) = linT f acc + linT f ts
  | [], acc => by simp [linT]
  | t :: r, acc => by rw [List.foldl_cons, linT_fold f r, linT_add, linT]; omega
theorem linT_canon (f : ByteArray → Int) (ts : List Tm) : linT f (canonT ts) = linT f ts := by unfold canonT; rw [linT_fold]; simp [linT]
theorem linT_same {x y : List Tm} (h : ∀ q, coefAt q x = coefAt q y) (f : ByteArray → Int) : linT f x = linT f y := by rw [← linT_canon f x, ← linT_canon f y, canon_same h]
theorem row_one (q : ByteArray) (t : Tm) : ∀ y, coefAt q (rowS t y) = t.c * coefAt q (rowS ⟨1, t.s⟩ y)
  | [] => by simp [rowS, coefAt]
  | u :: r => by
    rw [rowS_cons, rowS_cons, coefAt_append, coefAt_append, row_one q t r, Int.mul_add]
    congr 1
    rw [List.filter_cons, List.filter_nil, List.filter_cons, List.filter_nil]
    by_cases hs : (t.s ++ u.s).size ≤ 4
    · rw [if_pos (show short (pairS t u) = true from decide_eq_true hs), if_pos (show short (pairS ⟨1, t.s⟩ u) = true from decide_eq_true hs), coefAt, coefAt, coefAt]
      show (if t.s ++ u.s = q then t.c * u.c else 0) + 0 = t.c * ((if t.s ++ u.s = q then 1 * u.c else 0) + 0)
      split <;> simp
    · rw [if_neg (show ¬ short (pairS t u) = true by unfold short pairS; simpa using hs), if_neg (show ¬ short (pairS ⟨1, t.s⟩ u) = true by unfold short pairS; simpa using hs)]
      simp [coefAt]
theorem row_lin (q : ByteArray) (t : Tm) : ∀ y, coefAt q (rowS t y) = linT (fun s => if (t.s ++ s).size ≤ 4 ∧ t.s ++ s = q then t.c else 0) y
  | [] => by simp [rowS, coefAt, linT]
  | u :: r => by
    rw [rowS_cons, coefAt_append, row_lin q t r, linT]
    congr 1
    rw [List.filter_cons, List.filter_nil]
    by_cases hs : (t.s ++ u.s).size ≤ 4
    · rw [if_pos (show short (pairS t u) = true from decide_eq_true hs), coefAt, coefAt]
      show (if t.s ++ u.s = q then t.c * u.c else 0) + 0 = u.c * (if (t.s ++ u.s).size ≤ 4 ∧ t.s ++ u.s = q then t.c else 0)
      by_cases hq : t.s ++ u.s = q
      · rw [if_pos hq, if_pos ⟨hs, hq⟩, Int.mul_comm]; omega
      · rw [if_neg hq, if_neg fun h => hq h.2]; simp
    · rw [if_neg (show ¬ short (pairS t u) = true by unfold short pairS; simpa using hs), if_neg fun h => hs h.1]
      simp [coefAt]
theorem pairs_lin (q : ByteArray) (y : List Tm) : ∀ x, coefAt q (pairsS x y) = linT (fun s => coefAt q (rowS ⟨1, s⟩ y)) x
  | [] => rfl
  | t :: r => by
    have e : pairsS (t :: r) y = rowS t y ++ pairsS r y := by unfold pairsS rowS; rw [List.flatMap_cons]
    rw [e, coefAt_append, row_one, pairs_lin q y r, linT]
theorem pairs_same1 {x x' : List Tm} (h : ∀ q, coefAt q x = coefAt q x') (y : List Tm) (q : ByteArray) : coefAt q (pairsS x y) = coefAt q (pairsS x' y) := by
  rw [pairs_lin, pairs_lin]; exact linT_same h _
theorem pairs_same2 {y y' : List Tm} (h : ∀ q, coefAt q y = coefAt q y') (q : ByteArray) : ∀ x, coefAt q (pairsS x y) = coefAt q (pairsS x y')
  | [] => rfl
  | t :: r => by
    have e : ∀ z, pairsS (t :: r) z = rowS t z ++ pairsS r z := fun z => by unfold pairsS rowS; rw [List.flatMap_cons]
    rw [e, e, coefAt_append, coefAt_append, pairs_same2 h q r, row_lin, row_lin, linT_same h]
theorem canon_id {ts : List Tm} (h : Canon ts) : canonT ts = ts := (canonT_unique h fun _ => rfl).symm

end Go.Proofs.YtdhmicpoigoleabDoor

/- The contract of the model's 'SeriesTurned'. -/

namespace Go.Proofs.YtdhmicpoigoleabDoor
open Go.RowKit Go.Shelf

def negT (t : Tm) : Tm := ⟨-t.c, t.s⟩
/-- What is left of a series without its first term, with opposite coefficients; its powers; those up to a number. -/
def restT (a : List Tm) : List Tm := (a.drop 1).map negT
def powS (a : List Tm) : Nat → List Tm
  | 0 => oneT
  | k + 1 => canonT (pairsS (powS a k) (restT a))
def outL (a : List Tm) (k : Nat) : List Tm := (List.range k).flatMap (powS a)
theorem outL_succ (a : List Tm) (k : Nat) : outL a (k + 1) = outL a k ++ powS a k := by
  unfold outL; rw [List.range_succ, List.flatMap_append]; simp
def headB (a : List Tm) : Bool := match a with
  | [] => false
  | t :: _ => decide (t.c = 1) && decide (t.s.size = 0)
def powsB (a : List Tm) : Bool := (List.range 5).all fun k => serB (powS a (k + 1))
/-- What SeriesTurned answers. -/
def serTurnB (a : List Tm) : Bool := serB a && (headB a && (powsB a && twS (canonT (outL a 5))))
theorem restT_len {a : List Tm} : (restT a).length = a.length - 1 := by simp [restT]
theorem restT_get {a : List Tm} {i : Nat} (h : i < (restT a).length) : (restT a)[i] = negT (a[i + 1]'(by rw [restT_len] at h; omega)) := by
  simp only [restT, List.getElem_map, List.getElem_drop]
  congr 2
  omega
theorem restT_ser {a : List Tm} (h : SerL a) : SerL (restT a) :=
  ⟨by rw [restT_len]; have := h.1; omega, fun t ht => by
    obtain ⟨u, hu, rfl⟩ := List.mem_map.1 ht
    have := h.2 u (List.mem_of_mem_drop hu)
    unfold negT
    exact ⟨this.1, by show -1000000 ≤ -u.c; omega, by show -u.c ≤ 1000000; omega⟩⟩
theorem head_at {x : List Tm} (h : 0 < x.length) : headB x = (decide (x[0].c = 1) && decide (x[0].s.size = 0)) := by
  cases x with
  | nil => cases h
  | cons t r => rfl
theorem head_one {x : List Tm} (h : headB x = true) : ∃ h0 : 0 < x.length, x[0] = ⟨1, { data := #[] }⟩ := by
  cases x with
  | nil => cases h
  | cons t r =>
    refine ⟨by simp, ?_⟩
    have h2 : (decide (t.c = 1) && decide (t.s.size = 0)) = true := h
    simp only [Bool.and_eq_true, decide_eq_true_eq] at h2
    obtain ⟨c, s⟩ := t
    obtain ⟨h3, h4⟩ := h2
    have h5 : s = { data := #[] } := bytes_ext (by
      have : s.data.toList = [] := List.eq_nil_of_length_eq_zero (by simpa using h4)
      rw [this])
    simp only at h3
    rw [List.getElem_cons_zero, h3, h5]
theorem powsB_false {a : List Tm} {k : Nat} (hk : k < 5) (h : serB (powS a (k + 1)) = false) : powsB a = false := List.all_eq_false.2 ⟨k, List.mem_range.2 hk, by rw [h]; exact Bool.false_ne_true⟩
theorem powsB_true {a : List Tm} (h : ∀ k, k < 5 → serB (powS a (k + 1)) = true) : powsB a = true := List.all_eq_true.2 fun k hk => h k (List.mem_range.1 hk)

set_option maxRecDepth 100000 in
set_option maxHeartbeats 4000000 in
theorem sSeriesTurned_bad (a : Option Addr) (cap n : Nat) (x : List Tm) (w : World) (hx : IsTerms w a n x) (hb : serB x = false ∨ headB x = false) :
    Calls Tryd.prog 6 #[.slice a n cap] w (STold w false []) := by
  have HX := Lib.hid hx
  cases hbx : serB x with
  | false =>
    have HBX := Lib.hid hbx
    clear hbx hb hx
    go_enter Tryd.func6, Tryd.ntmps6
    go_wp2_with fail
    refine (sSeriesIn_is a cap n x false _ HX.out HBX.out).mono ?_
    rintro e w1 ⟨rfl, hb1⟩
    have HB1 := Lib.hid hb1
    clear hb1
    go_wp2
    go_ret2
    exact ⟨⟨_, rfl, (ownEmpty w1).mono HB1.out.size⟩, HB1.out.alloc HB1.out.size _⟩
  | true =>
    have hbh : headB x = false := by rcases hb with h | h; · rw [h] at hbx; cases hbx
                                     · exact h
    have HBX := Lib.hid hbx
    have HBH := Lib.hid hbh
    have hmax := hx.max
    unfold maxLen at hmax
    clear hbx hbh hb hx
    by_cases h0 : n = 0
    · subst h0
      go_enter Tryd.func6, Tryd.ntmps6
      go_wp2_with fail
      refine (sSeriesIn_is a cap 0 x true _ HX.out HBX.out).mono ?_
      rintro e w1 ⟨rfl, hb1⟩
      have HB1 := Lib.hid hb1
      clear hb1
      go_wp2
      go_ret2
      exact ⟨⟨_, rfl, (ownEmpty w1).mono HB1.out.size⟩, HB1.out.alloc HB1.out.size _⟩
    · have hdn : decide ((n : Int) = 0) = false := decide_eq_false (by omega)
      have hn0 : ¬ (n : Int) = 0 := by omega
      have hn1 : 0 < n := by omega
      have hx0 : 0 < x.length := by rw [HX.out.len]; exact hn1
      go_enter Tryd.func6, Tryd.ntmps6
      go_wp2_with fail
      refine (sSeriesIn_is a cap n x true _ HX.out HBX.out).mono ?_
      rintro e w1 ⟨rfl, hb1⟩
      have HB1 := Lib.hid hb1
      obtain ⟨z, rfl, hz⟩ := (HX.out.below hb1).at_ hn1
      obtain ⟨t, ht⟩ : ∃ t, x[0] = t := ⟨_, rfl⟩
      have hc := hz.2 0 hx0
      rw [ht, addr_next] at hc
      rw [Nat.zero_mul, show z.add 0 = z by unfold Addr.add; simp] at hc
      obtain ⟨c0, d1⟩ := hc
      clear hb1
      have HHd : Hid (t.c = 1 → t.s.toList = [] → False) := Lib.hid fun h1 h2 => by
        have h3 := HBH.out
        rw [head_at hx0, ht, decide_eq_true h1, Bool.true_and] at h3
        rw [ByteArray.toList_eq] at h2
        have : t.s.size = 0 := by rw [← show t.s.data.toList.length = t.s.size by simp, h2]; rfl
        rw [decide_eq_true this] at h3
        cases h3
      clear ht hz
      go_wp2
      all_goals first
        | exact (HHd.out (by assumption) (by assumption)).elim
        | (go_ret2; exact ⟨⟨_, rfl, (ownEmpty w1).mono HB1.out.size⟩, HB1.out.alloc HB1.out.size _⟩)

set_option maxRecDepth 100000 in
set_option maxHeartbeats 8000000 in
theorem sSeriesTurned_good (a : Option Addr) (cap n : Nat) (x : List Tm) (b : Bool) (w : World) (hx : IsTerms w a n x) (hbx : serB x = true) (hbh : headB x = true) (hb : (powsB x && twS (canonT (outL x 5))) = b) :
    Calls Tryd.prog 6 #[.slice a n cap] w (STold w b (canonT (outL x 5))) := by
  obtain ⟨i0, hi, hz0, hz1, hz2⟩ := info_parts infoTerm
  obtain ⟨hx0, ht⟩ := head_one hbh
  have hser := serL_of hbx
  have hn400 : n ≤ 400 := by rw [← hx.len]; exact hser.1
  have HX := Lib.hid hx
  have HSer := Lib.hid hser
  have HRest := Lib.hid (restT_ser hser)
  have HBX := Lib.hid hbx
  have HBB := Lib.hid hb
  have hn1 : 0 < n := by rw [← hx.len]; exact hx0
  have hdn : decide ((n : Int) = 0) = false := decide_eq_false (by omega)
  have hn0 : ¬ (n : Int) = 0 := by omega
  have hbeq : ((n : Int) == 0) = false := by simp; omega
  have hmx : Tryd.prog.follows .mixedOrders = true := by kernel_rfl
  have HLen : Hid ((restT x).length = n - 1) := Lib.hid (by rw [restT_len, hx.len])
  clear hx hser hbx hbh hb
  go_enter Tryd.func6, Tryd.ntmps6
  go_wp2_with fail
  refine (sSeriesIn_is a cap n x true _ HX.out HBX.out).mono ?_
  rintro e w1 ⟨rfl, hb1⟩
  have HB1 := Lib.hid hb1
  obtain ⟨z, rfl, hz⟩ := (HX.out.below hb1).at_ hn1
  have hc := hz.2 0 hx0
  rw [ht, addr_next] at hc
  rw [Nat.zero_mul, show z.add 0 = z by unfold Addr.add; simp] at hc
  obtain ⟨c0, d1⟩ := hc
  have HZ := Lib.hid hz
  have hE1 := Lib.hid ((ownEmpty w1).own.mono HB1.out.size)
  clear hb1 ht hz
  go_wp2
  clear c0 d1
  have hB2 : Below w.heap.size w (w1.alloc (.cells #[] TI)) := HB1.out.alloc HB1.out.size _
  clear HZ
  go_loopw [4, 5] (fun v i wr => ∃ k : Nat, k ≤ n - 1 ∧ i = .int .i64 ((k + 1 : Nat) : Int) ∧ Hid (OwnT w.heap.size wr v ((restT x).take k)) ∧ Below w.heap.size w wr) (fun _ i _ => n - (intOf i).toNat)
  case atStart => exact ⟨0, Nat.zero_le _, rfl, hE1, hB2⟩
  case round =>
    obtain ⟨k, hk, rfl, HO, hB⟩ := hrel
    by_cases hlt : k < n - 1
    · have hkx : k + 1 < x.length := by rw [HX.out.len]; omega
      have hkr : k < (restT x).length := by rw [HLen.out]; exact hlt
      have hzw := (HX.out.below hB)
      obtain ⟨z', hzz, hz⟩ := hzw.at_ hn1
      simp only [Option.some.injEq] at hzz
      subst hzz
      obtain ⟨t, ht⟩ : ∃ t, x[k + 1] = t := ⟨_, rfl⟩
      have hc := hz.2 (k + 1) hkx
      have hbz := hz.1
      rw [ht, addr_next] at hc
      obtain ⟨c0, d1⟩ := hc
      have htb := HSer.out.2 _ (List.getElem_mem hkx)
      rw [ht] at htb
      have hcur : (restT x).take (k + 1) = (restT x).take k ++ [⟨-t.c, t.s⟩] := by rw [List.take_succ_eq_append_getElem hkr, restT_get hkr, ht]; rfl
      have HCur := Lib.hid hcur
      have hneg : IntKind.i64.wrap (-t.c) = -t.c := IntWalk.i64_in _ (by omega)
      have hlt1 : (k : Int) + 1 < n := by omega
      have hge1 : 0 ≤ (k : Int) + 1 := by omega
      have hown := HO.out
      obtain ⟨N, hN⟩ : ∃ N, ((restT x).take k).length = N := ⟨_, rfl⟩
      have hN4 : N ≤ 400 := by rw [← hN, List.length_take]; omega
      unfold OwnT at hown
      rw [hN] at hown
      have HOW := Lib.hid hown
      have HN := Lib.hid hN
      have hbs := hB.size
      have hwr : wr.drew.heap.size = wr.heap.size := rfl
      clear ht hz hzw htb hcur hown hN
      go_wp2_with fail
      go_region_law
        ((refine step_append_lies _ (by rfl) _ _ _ (by rfl) w.heap.size TI i0 _ 2 24 Tryd.underlying23 hi hz0 hz1 hz2 rfl (by omega) u4 N (termsV ((restT x).take k)) (by rfl) ((HOW.out.alloc _).drew)
            ⟨wr.heap.size, 0, none⟩ 1 1 [.int .i64 (-t.c), .string t.s] (by rfl) (by rfl) (World.news_of_block (cs := #[.int .i64 (-t.c), .string t.s]) (t := TI) (fr := (0, 0)) (heap_alloc_new wr _)) (by simp [Value.oneCell'])
            (by omega) (by unfold maxLen; omega) (by omega) (by simp; omega) (wr.heap.size + 1) (by simp) ?_; intro gg cap1 w7 hown7 hgrow7 hat hlt7))
      all_goals
        have hlow := ownsRow_low HOW.out
        have hB7 : Below w.heap.size w w7 := hB.trans ((((Below.refl w.heap.size wr).alloc hbs _).drew).grown hgrow7 (by show w.heap.size ≤ (wr.alloc _).heap.size; simp; omega) hlow)
        have HO7 := Lib.hid hown7
        clear hown7 hgrow7 hat hlt7 hlow
        go_wp2
        go_roundw
        case rel =>
          refine ⟨k + 1, by omega, by go_num, Lib.hid ?_, hB7⟩
          rw [HCur.out]
          unfold OwnT
          rw [List.length_append, HN.out, termsV_append]
          exact HO7.out
        case measure => simp [intOf]; omega
    · obtain rfl : k = n - 1 := by omega
      have hcut : ¬ (((n - 1 + 1 : Nat) : Int) < n) := by omega
      obtain ⟨wo, rfl⟩ : ∃ wo : World, wo = wr := ⟨_, rfl⟩
      have hrest := HO.out
      rw [List.take_of_length_le (by rw [HLen.out]; exact Nat.le_refl _)] at hrest
      obtain ⟨ar, cr, rfl, hIr⟩ := hrest.isTerms (serL_small HRest.out)
      obtain ⟨m, hm⟩ : ∃ m, (restT x).length = m := ⟨_, rfl⟩
      rw [hm] at hIr ⊢
      have HIr := Lib.hid hIr
      have hone : OwnTerms wo.heap.size (wo.alloc (.cells #[.int .i64 1, .string { data := #[] }] 48)) (.slice (some ⟨wo.heap.size, 0, none⟩) 1 1) oneT :=
        ⟨wo.heap.size, 1, rfl, ⟨rfl, .inr ⟨_, 1, #[.int .i64 1, .string { data := #[] }], rfl, Nat.le_refl _, heap_alloc_new wo _, Nat.le_refl _, by decide, rfl, rfl⟩⟩⟩
      have hbb1 : Below wo.heap.size wo (wo.alloc (.cells #[.int .i64 1, .string { data := #[] }] 48)) := (Below.refl _ _).alloc (Nat.le_refl _) _
      have hacc := acc_zero (wo.alloc (.cells #[.int .i64 1, .string { data := #[] }] 48))
      rw [World.size_alloc] at hacc
      have hB3 : Below w.heap.size w ((wo.alloc (.cells #[.int .i64 1, .string { data := #[] }] 48)).alloc (.cells #[] TI)) := (hB.trans (hbb1.mono hB.size)).alloc (by have := hB.size; simp; omega) _
      have hBo : Below wo.heap.size wo ((wo.alloc (.cells #[.int .i64 1, .string { data := #[] }] 48)).alloc (.cells #[] TI)) := hbb1.alloc (by simp) _
      have hbs := hB.size
      have HOne := Lib.hid ((hone.mono hB.size).below ((Below.refl _ _).alloc (Nat.le_refl _) (.cells #[] TI)))
      have HAcc0 : Hid (Acc w.heap.size ((wo.alloc (.cells #[.int .i64 1, .string { data := #[] }] 48)).alloc (.cells #[] TI)) (.slice (some ⟨wo.heap.size + 1, 0, none⟩) 0 0) [] 0 0) :=
        Lib.hid ⟨hacc.own.mono (by omega), hacc.len, hacc.bnd, hacc.sml⟩
      have HB3 := Lib.hid hB3
      have HBo := Lib.hid hBo
      clear hrest hIr hone hbb1 hacc hB3 hBo hm
      go_wp2
      go_loopw [6, 7, 8] (fun p v i W => ∃ k : Nat, k ≤ 5 ∧ i = .int .i64 k ∧ Hid (∀ j, j < k → serB (powS x (j + 1)) = true) ∧ Hid (OwnTerms w.heap.size W p (powS x k)) ∧ Hid (Acc w.heap.size W v ((outL x k).foldl addT []) (400 * k) (400000000 * k)) ∧ Below w.heap.size w W ∧ Hid (Below wo.heap.size wo W)) (fun _ _ i _ => 5 - (intOf i).toNat)
      case atStart => exact ⟨0, Nat.zero_le _, rfl, Lib.hid (fun j h => absurd h (Nat.not_lt_zero _)), HOne, HAcc0, HB3.out, HBo⟩
      case round =>
        obtain ⟨k, hk, rfl, HP, HO, HA, hB, HBO⟩ := hrel
        obtain ⟨wk, rfl⟩ : ∃ wk : World, wk = wr := ⟨_, rfl⟩
        by_cases hlt : k < 5
        · have hser : SerL (powS x k) := by
            cases k with
            | zero => exact serOK_one.ser (by omega)
            | succ k => exact serL_of (HP.out k (by omega))
          obtain ⟨gp, cp, rfl, hIp⟩ := own_ser HO.out hser
          obtain ⟨q, hq⟩ : ∃ q, (powS x k).length = q := ⟨_, rfl⟩
          have hq4 : q ≤ 400 := by rw [← hq]; exact hser.1
          rw [hq] at hIp ⊢
          obtain ⟨zp, hzp⟩ : ∃ zp : Addr, (⟨gp, 0, none⟩ : Addr) = zp := ⟨_, rfl⟩
          rw [hzp] at hIp ⊢
          have HIp := Lib.hid hIp
          have HSe := Lib.hid hser
          have HQ := Lib.hid hq
          have hbk := hB.size
          clear hIp hser hq hzp
          have hle5 : (k : Int) ≤ 4 := by omega
          go_wp2
          go_loopw [7, 9] (fun v i W => ∃ j : Nat, j ≤ q ∧ i = .int .i64 j ∧ Hid (Acc w.heap.size W v (((powS x k).take j).foldl addT ((outL x k).foldl addT [])) (400 * k + j) (400000000 * k + 1000000 * j)) ∧ Below wk.heap.size wk W) (fun _ i _ => q - (intOf i).toNat)
          case atStart => exact ⟨0, Nat.zero_le _, rfl, Lib.hid (by simpa using HA.out), Below.refl _ _⟩
          case round =>
            obtain ⟨j, hj, rfl, HAj, hBj⟩ := hrel
            by_cases hltj : j < q
            · have hjx : j < (powS x k).length := by rw [HQ.out]; exact hltj
              obtain ⟨z', hzz, hz⟩ := (HIp.out.below hBj).at_ (by omega)
              simp only [Option.some.injEq] at hzz
              subst hzz
              obtain ⟨t, ht⟩ : ∃ t, (powS x k)[j] = t := ⟨_, rfl⟩
              have hc := hz.2 j hjx
              have hbz := hz.1
              rw [ht, addr_next] at hc
              obtain ⟨c0, d1⟩ := hc
              have htb := HSe.out.2 _ (List.getElem_mem hjx)
              rw [ht] at htb
              have HT := Lib.hid ht
              have HTB := Lib.hid htb
              have hBw : Below w.heap.size w wr := hB.trans (hBj.mono hbk)
              clear ht hz htb
              go_wp2
              go_still_tail 11, hmx
              change wpList _ _ _ _ _ wr.drew
              go_wp2_with fail
              refine (step_any w.heap.size u7 _ _ _ 1000000 t.c t.s wr.drew (HAj.out.below (Below.refl _ _).drew) (by omega) (by omega) (by omega) (by omega) HTB.out.2 (by have := HTB.out.1; omega) hBw.size).mono ?_
              rintro e w4 ⟨⟨v', rfl, ho⟩, hb4⟩
              have hB4 : Below wk.heap.size wk w4 := hBj.trans (((Below.refl _ _).drew.trans hb4).mono hBj.size)
              have HO4 := Lib.hid ho
              clear ho hb4
              go_wp2
              go_roundw
              case rel =>
                refine ⟨j + 1, by omega, by go_num, Lib.hid ?_, hB4⟩
                rw [fold_succ2 _ (powS x k) j hjx, HT.out]
                exact HO4.out.more (by omega) (by omega)
              case measure => simp [intOf]; omega
            · obtain rfl : j = q := by omega
              have haj := HAj.out
              rw [List.take_of_length_le (by rw [HQ.out]; exact Nat.le_refl _)] at haj
              have HAc : Hid (Acc w.heap.size wr u7 ((outL x (k + 1)).foldl addT []) (400 * (k + 1 : Nat)) (400000000 * ((k + 1 : Nat) : Int))) := Lib.hid (by rw [outL_succ, List.foldl_append]; exact haj.more (by omega) (by omega))
              have hBw : Below w.heap.size w wr := hB.trans (hBj.mono hbk)
              have hBow := HBO.out.trans (hBj.mono HBO.out.size)
              have HBow := Lib.hid hBow
              have HIrw := Lib.hid (HIr.out.below hBow)
              have HIpw := Lib.hid (HIp.out.below hBj)
              have hbw := hBw.size
              clear haj hBow
              go_wp2_with fail
              refine (l4Times_any _ ar cp cr j m (powS x k) (restT x) _ HIpw.out HIrw.out HSe.out HRest.out).mono ?_
              rintro e w5 ⟨⟨v5, rfl, ho5⟩, hb5⟩
              change Acc _ _ _ (powS x (k + 1)) _ _ at ho5
              obtain ⟨a5, c5, rfl, hI5⟩ := ho5.own.own.isTerms (ho5.small (by omega) (by omega))
              obtain ⟨q5, hq5⟩ : ∃ q, (powS x (k + 1)).length = q := ⟨_, rfl⟩
              have HO5 := Lib.hid (ho5.own.mono hbw)
              rw [hq5] at hI5 HO5 ⊢
              have HI5 := Lib.hid hI5
              have HB5 := Lib.hid hb5
              obtain ⟨bp, hbp⟩ : ∃ bp, serB (powS x (k + 1)) = bp := ⟨_, rfl⟩
              have HBP := Lib.hid hbp
              clear ho5 hI5 hb5 hq5 hbp
              go_wp2_with fail
              refine (sSeriesIn_is a5 c5 q5 (powS x (k + 1)) bp _ HI5.out HBP.out).mono ?_
              rintro e w6 ⟨rfl, hb6⟩
              have HB6 := Lib.hid (HB5.out.trans (hb6.mono HB5.out.size))
              have HO6 := Lib.hid (HO5.out.below hb6)
              have hB6 : Below w.heap.size w w6 := hBw.trans (HB6.out.mono hbw)
              clear hb6
              cases bp with
              | false =>
                have hbf : b = false := by rw [← HBB.out, powsB_false hlt HBP.out]; rfl
                subst hbf
                go_wp2
                go_ret2
                exact ⟨⟨_, rfl, (ownEmpty w6).mono hB6.size⟩, hB6.alloc hB6.size _⟩
              | true =>
                go_wp2
                go_roundw
                case rel =>
                  refine ⟨k + 1, by omega, by go_num, Lib.hid fun i hi => ?_, HO6, Lib.hid (HAc.out.below HB6.out), hB6, Lib.hid (HBow.out.trans (HB6.out.mono HBow.out.size))⟩
                  by_cases e : i = k
                  · subst e; exact HBP.out
                  · exact HP.out i (by omega)
                case measure => simp [intOf]; omega
        · obtain rfl : k = 5 := by omega
          have HAcc : Hid (Acc w.heap.size wk u7 (canonT (outL x 5)) (400 * 5) (400000000 * 5)) := Lib.hid HA.out
          have HSb : Hid (serB (canonT (outL x 5)) = b) := Lib.hid (by rw [serB_canon (canon_of _), ← HBB.out, powsB_true HP.out, Bool.true_and])
          go_wp2_with fail
          refine (s4Done_any w.heap.size u7 (canonT (outL x 5)) b wk HAcc.out.own (HAcc.out.small (by omega) (by omega)) hB.size HSb.out).mono ?_
          rintro e w2 ⟨⟨v', rfl, ho⟩, hb2⟩
          have HO2 := Lib.hid ho
          clear ho
          go_wp2
          go_ret2
          exact ⟨⟨_, rfl, HO2.out⟩, hB.trans (hb2.mono hB.size)⟩

theorem serTurnB_tw {x : List Tm} {b : Bool} (h : serTurnB x = b) : b = true → twS (canonT (outL x 5)) = true := by
  intro hb
  subst hb
  unfold serTurnB at h
  simp only [Bool.and_eq_true] at h
  exact h.2.2.2
theorem sSeriesTurned_any (a : Option Addr) (cap n : Nat) (x : List Tm) (b : Bool) (w : World) (hx : IsTerms w a n x) (hb : serTurnB x = b) :
    Calls Tryd.prog 6 #[.slice a n cap] w (STold w b (canonT (outL x 5))) := by
  unfold serTurnB at hb
  cases hbx : serB x with
  | false => rw [hbx] at hb; subst hb; exact sSeriesTurned_bad _ _ _ x w hx (.inl hbx)
  | true =>
    cases hbh : headB x with
    | false => rw [hbx, hbh] at hb; subst hb; exact sSeriesTurned_bad _ _ _ x w hx (.inr hbh)
    | true => rw [hbx, hbh] at hb; exact sSeriesTurned_good _ _ _ x b w hx hbx hbh hb

end Go.Proofs.YtdhmicpoigoleabDoor

/- The powers of what a series lacks to 1, in whatever order; the coefficient of 1. -/

namespace Go.Proofs.YtdhmicpoigoleabDoor
open Go.RowKit

theorem head_coef {x : List Tm} (hc : Canon x) : headB x = decide (coefAt noS x = 1) := by
  cases x with
  | nil => rfl
  | cons t r =>
    obtain ⟨h2, h3⟩ := List.pairwise_cons.1 hc.1
    have hr : ∀ u ∈ r, u.s ≠ noS := fun u hu e => by
      have := h2 u hu
      rw [e, less_no] at this
      cases this
    have e : headB (t :: r) = (decide (t.c = 1) && decide (t.s.size = 0)) := rfl
    rw [e, coefAt, coefAt_none hr, Int.add_zero]
    by_cases ht : t.s = noS
    · rw [if_pos ht, decide_eq_true (no_iff.1 ht), Bool.and_true]
    · rw [if_neg ht, decide_eq_false (fun h => ht (no_iff.2 h)), Bool.and_false]; rfl
theorem rest_canon {x : List Tm} (hc : Canon x) : Canon (restT x) := by
  have hd : Canon (x.drop 1) := ⟨List.Pairwise.drop hc.1, fun t ht => hc.2 t (List.mem_of_mem_drop ht)⟩
  refine ⟨List.pairwise_map.2 (hd.1.imp fun h => h), fun t ht => ?_⟩
  obtain ⟨u, hu, rfl⟩ := List.mem_map.1 ht
  have := hd.2 u hu
  show -u.c ≠ 0
  omega
theorem coef_neg (q : ByteArray) : ∀ l : List Tm, coefAt q (l.map negT) = -coefAt q l
  | [] => rfl
  | t :: r => by
    rw [List.map_cons, coefAt, coefAt, coef_neg q r]
    show (if t.s = q then -t.c else 0) + _ = _
    split <;> omega
/-- 1 less a series that begins with 1. -/
theorem rest_coef {x : List Tm} (hh : headB x = true) (q : ByteArray) : coefAt q (oneT ++ x.map negT) = coefAt q (restT x) := by
  obtain ⟨h0, h1⟩ := head_one hh
  cases x with
  | nil => cases h0
  | cons t r =>
    obtain rfl : t = ⟨1, noS⟩ := h1
    rw [coefAt_append, coef_neg]
    unfold restT
    rw [List.drop_succ_cons, List.drop_zero, coef_neg, coefAt]
    show ((if noS = q then (1 : Int) else 0) + 0) + -((if noS = q then (1 : Int) else 0) + coefAt q r) = -coefAt q r
    split <;> omega
theorem rest_far {x : List Tm} (hc : Canon x) (hh : headB x = true) : ∀ t ∈ restT x, 1 ≤ t.s.size := fun t ht => by
  rw [head_coef hc] at hh
  obtain ⟨u, r, rfl, _, _, hr⟩ := canon_first hc (of_decide_eq_true hh)
  unfold restT at ht
  rw [List.drop_succ_cons, List.drop_zero] at ht
  obtain ⟨v, hv, rfl⟩ := List.mem_map.1 ht
  have := hr v hv
  show 1 ≤ v.s.size
  omega
theorem pow_far {x : List Tm} (h : ∀ t ∈ restT x, 1 ≤ t.s.size) : ∀ (k : Nat), ∀ t ∈ powS x k, k ≤ t.s.size
  | 0, _, _ => Nat.zero_le _
  | k + 1, t, ht => by
    obtain ⟨v, hv, e⟩ := canon_words ht
    rw [← e]
    obtain ⟨u, hu, hv⟩ := List.mem_flatMap.1 hv
    obtain ⟨z, hz, rfl⟩ := List.mem_map.1 (List.mem_filter.1 hv).1
    have h1 := pow_far h k u hu
    have h2 := h z hz
    unfold pairS
    rw [append_size]
    omega
theorem pow_short (x : List Tm) (k : Nat) : ∀ t ∈ powS x (k + 1), t.s.size ≤ 4 := fun t ht => by
  obtain ⟨v, hv, e⟩ := canon_words ht
  rw [← e]
  obtain ⟨u, hu, hv⟩ := List.mem_flatMap.1 hv
  exact of_decide_eq_true (List.mem_filter.1 hv).2
theorem pow_five {x : List Tm} (hc : Canon x) (hh : headB x = true) : powS x 5 = [] := by
  cases h : powS x 5 with
  | nil => rfl
  | cons t r =>
    have h1 := pow_far (rest_far hc hh) 5 t (by rw [h]; simp)
    have h2 := pow_short x 4 t (by rw [h]; simp)
    omega
theorem pow_canon (x : List Tm) (k : Nat) : Canon (powS x (k + 1)) := canon_of _
theorem powsB_four {x : List Tm} (hc : Canon x) (hh : headB x = true) (h : ∀ k, k < 4 → twS (powS x (k + 1)) = true) : powsB x = true := powsB_true fun k hk => by
  by_cases h4 : k < 4
  · rw [serB_canon (pow_canon x k)]; exact h k h4
  · obtain rfl : k = 4 := by omega
    rw [pow_five hc hh]; decide
theorem powsB_none {x : List Tm} {k : Nat} (hk : k < 4) (h : twS (powS x (k + 1)) = false) : powsB x = false := powsB_false (k := k) (by omega) (by rw [serB_canon (pow_canon x k)]; exact h)
/-- The next power, whatever the maps' order. -/
theorem pow_next {P R x : List Tm} {k : Nat} (hP : ∀ q, coefAt q P = coefAt q (powS x k)) (hR : ∀ q, coefAt q R = coefAt q (restT x)) (q : ByteArray) : coefAt q (pairsS P R) = coefAt q (powS x (k + 1)) := by
  rw [pairs_same1 hP, pairs_same2 hR]
  show _ = coefAt q (canonT _)
  rw [(canonT_spec _).2]
theorem pow_bnd {P x : List Tm} {k : Nat} (ha : Apart P) (hP : ∀ q, coefAt q P = coefAt q (powS x (k + 1))) (ht : twS (powS x (k + 1)) = true) : BndT 1000000 P :=
  apart_bnd ha (fun t h => by rw [canon_same hP, canon_id (pow_canon x k)] at h; exact ((twS_parts ht).2 t h).1) (by omega)
theorem rest_bnd {R x : List Tm} (ha : Apart R) (hR : ∀ q, coefAt q R = coefAt q (restT x)) (hx : serB x = true) : BndT 1000000 R :=
  apart_bnd ha (fun t h => by
    rw [canon_same hR, canon_id (rest_canon (serB_parts hx).2.2)] at h
    have := (restT_ser (serL_of hx)).2 t h
    exact this.2) (by omega)

end Go.Proofs.YtdhmicpoigoleabDoor

/- The contracts of the program's 'oneLess', 'add' and 'inverse' (of a series). -/

namespace Go.Proofs.YtdhmicpoigoleabDoor
open Go.RowKit Go.Shelf

theorem wf_small {z : Int} (h1 : -4611686018427387904 ≤ z) (h2 : z ≤ 4611686018427387904) : (Lit.int .i64 z).wf = true := by
  simp only [Lit.wf, Bool.and_eq_true, decide_eq_true_eq]
  have e1 : IntKind.i64.min = -9223372036854775808 := by decide
  have e2 : IntKind.i64.max = 9223372036854775807 := by decide
  omega
theorem bnd_one {M : Int} (h : 1 ≤ M) : BndT M oneT := fun t ht => by
  rw [List.mem_singleton.1 ht]
  show -M ≤ 1 ∧ (1 : Int) ≤ M
  omega
theorem mono_one : MonoT oneT := fun t ht => by rw [List.mem_singleton.1 ht]; decide
theorem bnd_app {M : Int} {a b : List Tm} (h1 : BndT M a) (h2 : BndT M b) : BndT M (a ++ b) := fun t ht => (List.mem_append.1 ht).elim (h1 t) (h2 t)
theorem bnd_neg {M : Int} {a : List Tm} (h : BndT M a) : BndT M (a.map negT) := fun t ht => by
  obtain ⟨u, hu, rfl⟩ := List.mem_map.1 ht
  have := h u hu
  show -M ≤ -u.c ∧ -u.c ≤ M
  omega

set_option maxRecDepth 100000 in
set_option maxHeartbeats 4000000 in
theorem oneLess_any (b : Nat) (X : List Tm) (w : World) (hX : MapT w b X) (mX : MonoT X) (cX : BndT 1000000 X) :
    Calls Tryd.prog 25 #[.map (some b)] w fun e w' => ∃ m us, e = .returned (.map (some m)) ∧ w.heap.size ≤ m ∧ MapT w' m us ∧ MonoT us ∧ (∀ q, coefAt q us = coefAt q (oneT ++ X.map negT)) ∧ Below w.heap.size w w' := by
  have hb := hX.lt
  have hlX := apart_len341 hX.apart mX
  have HX := Lib.hid hX
  have MX := Lib.hid mX
  have CX := Lib.hid cX
  clear hX mX cX
  go_enter Tryd.func25, Tryd.ntmps25
  go_wp2_with fail
  refine (oneSeries_any _).mono ?_
  rintro e w1 ⟨⟨m, rfl, hlo, hM⟩, hb1⟩
  have hml := hM.lt
  have hbm : b ≠ m := by omega
  have HM := Lib.hid hM
  have HX1 := Lib.hid (HX.out.below hb1)
  have HB1 := Lib.hid hb1
  have hs1 := hb1.size
  clear hM hb1
  go_wp2_with (first | (at_range; refine wpList_range_map _ rfl _ rfl b X rfl HX1.out ?_; intro w3 hrg3 hg3 hs3) | go_in)
  try go_frame
  obtain ⟨r, hr⟩ : ∃ r, w1.heap.size = r := ⟨_, rfl⟩
  rw [hr] at hrg3 hs3 ⊢
  have H3 : MapT w3 m oneT := HM.out.kept hg3 (by simp)
  have B3 : Below w.heap.size w w3 := HB1.out.trans ((Below.refl _ w1).grown hg3 (by omega) (fun j ej => by cases ej))
  have hmr : m < r := by omega
  go_loopw [9] (fun _ wr => ∃ (done : List Tm) (cnt : Nat) (us : List Tm), RangeT wr b r X done cnt ∧ MapT wr m us ∧ Hid (MonoT us ∧ ∀ q, coefAt q us = coefAt q (oneT ++ done.map negT)) ∧ Below w.heap.size w wr)
    (fun _ wr => wr.rangeLeft b r)
  case atStart => exact ⟨[], _, oneT, hrg3, H3, Lib.hid ⟨mono_one, fun _ => rfl⟩, B3⟩
  case round =>
    obtain ⟨done, cnt, us, hrg, hT, HF, hB⟩ := hrel
    have hcl := hrg.cnt
    have hdl := hrg.donelen
    have hrl := hrg.lt
    have HRG := Lib.hid hrg
    have HTT := Lib.hid hT
    have HBB := Lib.hid hB
    clear hrg hT hB H3 B3 hrg3 hg3
    go_wp2_with (first | (at_next; refine wpList_next_map _ rfl _ rfl b r X done cnt rfl HRG.out ?_ ?_) | go_in)
    · intro hperm
      go_wp2
      go_ret
      refine ⟨m, us, rfl, by omega, HTT.out, HF.out.1, fun q => ?_, HBB.out⟩
      rw [HF.out.2, coefAt_append, coefAt_append, coefAt_perm q (hperm.map negT)]
    · intro c s v1 cnt1 hmem hrg1 hlt hg1 hs1' hen
      have HTv := Lib.hid (HTT.out.kept hg1 (by simp; omega))
      have HBv := Lib.hid (HBB.out.grown hg1 HBB.out.size (fun j ej => by cases ej; omega))
      have HRv := Lib.hid hrg1
      have hl1 := hrg1.cnt
      have hsm := MX.out _ hmem
      have hss : s.size ≤ 4 := mono_size hsm
      have hcb := CX.out _ hmem
      simp only at hcb
      have hqm : s.size ≤ maxLen := by unfold maxLen; omega
      obtain ⟨z, hz⟩ : ∃ z, coefAt s us = z := ⟨_, rfl⟩
      have hzb : -400000000 ≤ z ∧ z ≤ 400000000 := by
        rw [← hz, HF.out.2]
        have h1 := coef_bnd (M := 1000000) (by omega) s (bnd_app (bnd_one (by omega)) (bnd_neg (fun u hu => CX.out u (HRv.out.sub u (List.mem_append.2 (.inl hu))))))
        have h2 : (oneT ++ done.map negT).length ≤ 342 := by rw [List.length_append, List.length_map]; show 1 + done.length ≤ 342; omega
        omega
      have hsub : IntKind.i64.wrap (z - c) = z - c := IntWalk.i64_in _ (by omega)
      have HWF := Lib.hid (wf_small (z := z - c) (by omega) (by omega))
      have HUL : Hid (us.length < maxLen) := Lib.hid (by have := apart_len341 HTv.out.apart HF.out.1; unfold maxLen; omega)
      have HQM := Lib.hid hqm
      have HZ := Lib.hid hz
      have HSM := Lib.hid hsm
      clear hmem hrg1 hg1 HRG HTT HBB hqm hz hzb hsm hcb
      go_wp2_with (first | (refine wpList_lookup_map _ rfl _ _ rfl m us rfl HTv.out s rfl HQM.out ?_; rw [HZ.out]) | (refine wpList_update_map _ rfl _ _ _ rfl m us rfl HTv.out HUL.out s (z - c) rfl rfl HQM.out HWF.out ?_; intro v5 h5 hg5; simp only [Act.put]) | go_in)
      have hR5 := HRv.out.kept hg5 (by simp; omega) (by simp; omega)
      have hl5 := hR5.cnt
      go_roundw
      case rel =>
        refine ⟨_, cnt1, _, hR5, h5, Lib.hid ⟨mono_put HF.out.1 HSM.out, fun q => ?_⟩, HBv.out.grown hg5 HBv.out.size (fun j ej => by cases ej; omega)⟩
        rw [List.map_append, ← List.append_assoc, show ([⟨c, s⟩] : List Tm).map negT = [⟨-c, s⟩] from rfl, ← put_add s (-c) HF.out.2 q, HZ.out, Int.sub_eq_add_neg]
      case measure => rw [hl5, hcl]; exact hlt

set_option maxRecDepth 100000 in
set_option maxHeartbeats 4000000 in
theorem serAdd_any (b b2 : Nat) (X Y : List Tm) (w : World) (hne : b ≠ b2) (hX : MapT w b X) (hY : MapT w b2 Y) (mX : MonoT X) (mY : MonoT Y) (cX : ∀ q, -1000000000 ≤ coefAt q X ∧ coefAt q X ≤ 1000000000) (cY : BndT 1000000 Y) :
    Calls Tryd.prog 27 #[.map (some b), .map (some b2)] w fun e w' => e = .returned (.tuple #[]) ∧ (∃ us, MapT w' b us ∧ MonoT us ∧ ∀ q, coefAt q us = coefAt q (X ++ Y)) ∧ w.grownBy w' (some b) := by
  have hb := hX.lt
  have hb2 := hY.lt
  have hlY := apart_len341 hY.apart mY
  have HX := Lib.hid hX
  have HY := Lib.hid hY
  have MX := Lib.hid mX
  have MY := Lib.hid mY
  have CX := Lib.hid cX
  have CY := Lib.hid cY
  clear hX hY mX mY cX cY
  go_enter Tryd.func27, Tryd.ntmps27
  go_wp2_with (first | (at_range; refine wpList_range_map _ rfl _ rfl b2 Y rfl HY.out ?_; intro w3 hrg3 hg3 hs3) | go_in)
  try go_frame
  obtain ⟨r, hr⟩ : ∃ r, w.heap.size = r := ⟨_, rfl⟩
  rw [hr] at hrg3 hs3 ⊢
  have H3 : MapT w3 b X := HX.out.kept hg3 (by simp)
  have G3 : w.grownBy w3 (some b) := hg3.but _
  go_loopw [8] (fun _ wr => ∃ (done : List Tm) (cnt : Nat) (us : List Tm), RangeT wr b2 r Y done cnt ∧ MapT wr b us ∧ Hid (MonoT us ∧ ∀ q, coefAt q us = coefAt q (X ++ done)) ∧ w.grownBy wr (some b))
    (fun _ wr => wr.rangeLeft b2 r)
  case atStart => exact ⟨[], _, X, hrg3, H3, Lib.hid ⟨MX.out, fun _ => by rw [List.append_nil]⟩, G3⟩
  case round =>
    obtain ⟨done, cnt, us, hrg, hT, HF, hG⟩ := hrel
    have hcl := hrg.cnt
    have hdl := hrg.donelen
    have hrl := hrg.lt
    have HRG := Lib.hid hrg
    have HTT := Lib.hid hT
    have HGG := Lib.hid hG
    clear hrg hT hG H3 G3 hrg3 hg3
    go_wp2_with (first | (at_next; refine wpList_next_map _ rfl _ rfl b2 r Y done cnt rfl HRG.out ?_ ?_) | go_in)
    · intro hperm
      go_wp2
      go_end0
      refine ⟨rfl, ⟨us, HTT.out, HF.out.1, fun q => ?_⟩, HGG.out⟩
      rw [HF.out.2, coefAt_append, coefAt_append, coefAt_perm q hperm]
    · intro c s v1 cnt1 hmem hrg1 hlt hg1 hs1' hen
      have HTv := Lib.hid (HTT.out.kept hg1 (by simp; omega))
      have HGv := Lib.hid (HGG.out.andThen hg1 (fun j hj => by cases hj; exact Or.inl (by omega)))
      have HRv := Lib.hid hrg1
      have hl1 := hrg1.cnt
      have hsm := MY.out _ hmem
      have hss : s.size ≤ 4 := mono_size hsm
      have hcb := CY.out _ hmem
      simp only at hcb
      have hqm : s.size ≤ maxLen := by unfold maxLen; omega
      obtain ⟨z, hz⟩ : ∃ z, coefAt s us = z := ⟨_, rfl⟩
      have hzb : -2000000000 ≤ z ∧ z ≤ 2000000000 := by
        rw [← hz, HF.out.2, coefAt_append]
        have h1 := coef_bnd (M := 1000000) (by omega) s (ts := done) (fun u hu => CY.out u (HRv.out.sub u (List.mem_append.2 (.inl hu))))
        have h2 := CX.out s
        omega
      have hadd : IntKind.i64.wrap (z + c) = z + c := IntWalk.i64_in _ (by omega)
      have HWF := Lib.hid (wf_small (z := z + c) (by omega) (by omega))
      have HUL : Hid (us.length < maxLen) := Lib.hid (by have := apart_len341 HTv.out.apart HF.out.1; unfold maxLen; omega)
      have HQM := Lib.hid hqm
      have HZ := Lib.hid hz
      have HSM := Lib.hid hsm
      clear hmem hrg1 hg1 HRG HTT HGG hqm hz hzb hsm hcb
      go_wp2_with (first | (refine wpList_lookup_map _ rfl _ _ rfl b us rfl HTv.out s rfl HQM.out ?_; rw [HZ.out]) | (refine wpList_update_map _ rfl _ _ _ rfl b us rfl HTv.out HUL.out s (z + c) rfl rfl HQM.out HWF.out ?_; intro v5 h5 hg5; simp only [Act.put]) | go_in)
      have hR5 := HRv.out.kept hg5 (by simp; omega) (by simp; omega)
      have hl5 := hR5.cnt
      go_roundw
      case rel =>
        refine ⟨_, cnt1, _, hR5, h5, Lib.hid ⟨mono_put HF.out.1 HSM.out, fun q => ?_⟩, HGv.out.andThen hg5 (fun j hj => by cases hj; exact Or.inr rfl)⟩
        rw [← List.append_assoc, ← put_add s c HF.out.2 q, HZ.out]
      case measure => rw [hl5, hcl]; exact hlt

/-! ### inverse -/
def msgOne : ByteArray := { data := #[116, 104, 101, 32, 99, 111, 101, 102, 102, 105, 99, 105, 101, 110, 116, 32, 111, 102, 32, 49, 32, 105, 115, 32, 110, 111, 116, 32, 49] }
def msgPow : ByteArray := { data := #[97, 32, 112, 111, 119, 101, 114, 32, 105, 115, 32, 110, 111, 32, 115, 101, 114, 105, 101, 115] }
/-- What 'inverse' answers where there is none. -/
def NoInv (w : World) (e : Ending) (w' : World) : Prop := (∃ m : ByteArray, e = .returned (.tuple #[.map none, .iface 42 (.string m)])) ∧ Below w.heap.size w w'

set_option maxRecDepth 100000 in
set_option maxHeartbeats 4000000 in
theorem serInverse_head (b : Nat) (x : List Tm) (w : World) (hx : MapT w b x) (hc : coefAt noS x ≠ 1) :
    Calls Tryd.prog 13 #[.map (some b)] w (NoInv w) := by
  obtain ⟨z, hz⟩ : ∃ z, coefAt noS x = z := ⟨_, rfl⟩
  rw [hz] at hc
  have hne : (z != 1) = true := by simpa using hc
  have HZ := Lib.hid hz
  have HX := Lib.hid hx
  clear hz hx
  go_enter Tryd.func13, Tryd.ntmps13
  go_wp2_with (first | (refine wpList_lookup_map _ rfl _ _ rfl b x rfl HX.out noS rfl (Nat.zero_le _) ?_; rw [HZ.out]) | go_in)
  go_ret2
  exact ⟨⟨_, rfl⟩, Below.refl _ _⟩

set_option maxRecDepth 100000 in
set_option maxHeartbeats 8000000 in
theorem serInverse_any (b : Nat) (x : List Tm) (r : Bool) (w : World) (hm : MapT w b x) (hx : serB x = true) (hh : headB x = true) (hr : powsB x = r) :
    Calls Tryd.prog 13 #[.map (some b)] w fun e w' =>
      (r = false ∧ NoInv w e w') ∨ (r = true ∧ (∃ m us, e = .returned (.tuple #[.map (some m), .nilIface]) ∧ w.heap.size ≤ m ∧ MapT w' m us ∧ MonoT us ∧ ∀ q, coefAt q us = coefAt q (outL x 5)) ∧ Below w.heap.size w w') := by
  have hcan := (serB_parts hx).2.2
  have hz : coefAt noS x = 1 := by rw [head_coef hcan] at hh; exact of_decide_eq_true hh
  have HZ := Lib.hid hz
  have HM := Lib.hid hm
  have HSX := Lib.hid hx
  have HCan := Lib.hid hcan
  have HHd := Lib.hid hh
  have HR := Lib.hid hr
  have hblt := hm.lt
  clear hcan hz hm hx hh hr
  go_enter Tryd.func13, Tryd.ntmps13
  go_wp2_with (refine wpList_lookup_map _ rfl _ _ rfl b x rfl HM.out noS rfl (Nat.zero_le _) ?_; rw [HZ.out])
  refine (oneLess_any b x _ HM.out (ser_mono HSX.out) (ser_bnd HSX.out)).mono ?_
  rintro e w1 ⟨rb, R, rfl, hlr, hR, mR, cR, hb1⟩
  have hrl := hR.lt
  have HRC : Hid (∀ q, coefAt q R = coefAt q (restT x)) := Lib.hid fun q => by rw [cR, rest_coef HHd.out]
  have HRB := Lib.hid (rest_bnd hR.apart HRC.out HSX.out)
  have HR1 := Lib.hid hR
  have HMR := Lib.hid mR
  have HB1 := Lib.hid hb1
  have hs1 := hb1.size
  clear hR mR cR hb1
  go_wp2_with fail
  refine (oneSeries_any _).mono ?_
  rintro e w2 ⟨⟨pw, rfl, hlp, hP⟩, hb2⟩
  have hpl := hP.lt
  have HP2 := Lib.hid hP
  have HR2 := Lib.hid (HR1.out.below hb2)
  have HB2 := Lib.hid (HB1.out.trans (hb2.mono hs1))
  have hs2 := hb2.size
  clear hP hb2
  go_wp2_with fail
  refine (oneSeries_any _).mono ?_
  rintro e w3 ⟨⟨sm, rfl, hls, hS⟩, hb3⟩
  have hsl := hS.lt
  have HS3 := Lib.hid hS
  have HR3 := Lib.hid (HR2.out.below hb3)
  have HP3 := Lib.hid (HP2.out.below hb3)
  have HB3 := Lib.hid (HB2.out.trans (hb3.mono (Nat.le_trans hs1 hs2)))
  clear hS hb3
  go_wp2_with fail
  go_loopw [17] (fun i wr => ∃ (k : Nat) (P S : List Tm), k ≤ 4 ∧ i = .int .i64 k ∧ MapT wr rb R ∧ MapT wr pw P ∧ MapT wr sm S ∧ Hid (MonoT P ∧ BndT 1000000 P ∧ (∀ q, coefAt q P = coefAt q (powS x k)) ∧ MonoT S ∧ (∀ q, coefAt q S = coefAt q (outL x (k + 1))) ∧ (∀ q, -(1000000 * (k + 1) : Int) ≤ coefAt q S ∧ coefAt q S ≤ 1000000 * (k + 1)) ∧ ∀ j, j < k → twS (powS x (j + 1)) = true) ∧ Below w.heap.size w wr)
    (fun i _ => 4 - (intOf i).toNat)
  case atStart =>
    refine ⟨0, oneT, oneT, by omega, rfl, HR3.out, HP3.out, HS3.out, Lib.hid ⟨mono_one, bnd_one (by omega), fun _ => rfl, mono_one, fun q => ?_, fun q => ?_, fun j h => absurd h (Nat.not_lt_zero _)⟩, HB3.out⟩
    · unfold outL; rfl
    · have := coef_bnd (M := 1000000) (by omega) q (bnd_one (M := 1000000) (by omega))
      have e : (oneT.length : Int) = 1 := rfl
      rw [e] at this
      simpa using this
  case round =>
    obtain ⟨k, P, S, hk, rfl, hR, hP, hS, HF, hB⟩ := hrel
    have HRr := Lib.hid hR
    have HPr := Lib.hid hP
    have HSr := Lib.hid hS
    have HBr := Lib.hid hB
    have hBs := hB.size
    clear hR hP hS hB
    by_cases hlt : k < 4
    · have hli : (k : Int) < 4 := by omega
      go_wp2_with fail
      refine (times_any pw rb P R _ (by omega) HPr.out HRr.out HF.out.1 HMR.out HF.out.2.1 HRB.out).mono ?_
      rintro e w5 ⟨rfl, ⟨P', hP', mP', cP'⟩, hg5⟩
      have HCP : Hid (∀ q, coefAt q P' = coefAt q (powS x (k + 1))) := Lib.hid fun q => by rw [cP', pow_next HF.out.2.2.1 HRC.out]
      have hP5 := apart_len341 hP'.apart mP'
      have HAP := Lib.hid hP'.apart
      have HP5 := Lib.hid hP'
      have HMP := Lib.hid mP'
      have HR5 := Lib.hid (HRr.out.kept hg5 (by simp; omega))
      have HS5 := Lib.hid (HSr.out.kept hg5 (by simp; omega))
      have HB5 := Lib.hid (HBr.out.grown hg5 hBs (fun j ej => by cases ej; omega))
      have hs5 := HB5.out.size
      have HCT : Hid (canonT P' = powS x (k + 1)) := Lib.hid (by rw [canon_same HCP.out, canon_id (pow_canon x k)])
      clear hP' mP' cP' hg5
      cases ht : twS (powS x (k + 1)) with
      | false =>
        have HT := Lib.hid ht
        clear ht
        go_wp2_with fail
        refine (seriesTold_any pw P' false _ HP5.out (by omega) (by rw [HCT.out]; exact HT.out)).mono ?_
        rintro e w6 ⟨⟨v, rfl, _⟩, hb6⟩
        have HB6 := Lib.hid (HB5.out.trans (hb6.mono hs5))
        clear hb6
        go_wp2
        go_ret2
        exact .inl ⟨by rw [← HR.out]; exact powsB_none hlt HT.out, ⟨_, rfl⟩, HB6.out⟩
      | true =>
        have HT := Lib.hid ht
        clear ht
        go_wp2_with fail
        refine (seriesTold_any pw P' true _ HP5.out (by omega) (by rw [HCT.out]; exact HT.out)).mono ?_
        rintro e w6 ⟨⟨v, rfl, _⟩, hb6⟩
        have HP6 := Lib.hid (HP5.out.below hb6)
        have HS6 := Lib.hid (HS5.out.below hb6)
        have HR6 := Lib.hid (HR5.out.below hb6)
        have HB6 := Lib.hid (HB5.out.trans (hb6.mono hs5))
        have hs6 := HB6.out.size
        have HBP := Lib.hid (pow_bnd HAP.out HCP.out HT.out)
        clear hb6
        go_wp2_with fail
        refine (serAdd_any sm pw S P' _ (by omega) HS6.out HP6.out HF.out.2.2.2.1 HMP.out (fun q => by have := HF.out.2.2.2.2.2.1 q; omega) HBP.out).mono ?_
        rintro e w7 ⟨rfl, ⟨S', hS', mS', cS'⟩, hg7⟩
        have HF' := HF.out
        go_wp2
        go_roundw
        case rel =>
          refine ⟨k + 1, P', S', by omega, by go_num, HR6.out.kept hg7 (by simp; omega), HP6.out.kept hg7 (by simp; omega), hS', Lib.hid ⟨HMP.out, HBP.out, HCP.out, mS', fun q => ?_, fun q => ?_, fun j hj => ?_⟩, HB6.out.grown hg7 hs6 (fun j ej => by cases ej; omega)⟩
          · rw [cS', outL_succ, coefAt_append, coefAt_append, HF'.2.2.2.2.1, HCP.out]
          · rw [cS', coefAt_append]
            have h1 := HF'.2.2.2.2.2.1 q
            have h2 : -1000000 ≤ coefAt q P' ∧ coefAt q P' ≤ 1000000 := by
              by_cases hq : ∃ t ∈ P', t.s = q
              · obtain ⟨t, ht, rfl⟩ := hq
                rw [apart_unique HAP.out ht]; exact HBP.out t ht
              · rw [coefAt_none fun t ht e => hq ⟨t, ht, e⟩]; omega
            push_cast
            omega
          · by_cases hjk : j < k
            · exact HF'.2.2.2.2.2.2 j hjk
            · obtain rfl : j = k := by omega
              exact HT.out
        case measure => simp [intOf]; omega
    · obtain rfl : k = 4 := by omega
      go_wp2
      go_ret2
      exact .inr ⟨by rw [← HR.out]; exact powsB_four HCan.out HHd.out HF.out.2.2.2.2.2.2, ⟨sm, S, rfl, by omega, HSr.out, HF.out.2.2.2.1, HF.out.2.2.2.2.1⟩, HBr.out⟩

end Go.Proofs.YtdhmicpoigoleabDoor

/- The contracts of errors.As at the program's own kind of error. -/

namespace Go.Proofs.YtdhmicpoigoleabDoor
open Go.RowKit Go.Extern.Stop Go.Stop Go.Extern

theorem as_nil (t : Value) (w : World) :
    Calls Tryd.prog 14 #[.nilIface, t] w fun e w' => e = .returned (.bool false) ∧ w' = w := by
  go_enter Tryd.func14, Tryd.ntmps14
  go_wp2
  go_ret
  exact ⟨rfl, rfl⟩

theorem rl_valueP (t : Addr) (w : World) : (ReflectliteValue.unpack (.iface 44 (.pointer (some t)))).run Tryd.prog w
    = .ok (.agg #[.pointer (some ⟨2, 44, none⟩), .pointer (some ⟨w.heap.size, 0, none⟩), .int .u64 150]) (w.alloc (.cells #[.pointer (some t)] 44)) := by kernel_rfl
theorem rl_typeP (a : Addr) (w : World) : (ReflectliteValue.methodAny (ReflectliteValue.valueError "reflectlite.Value.Type" 0) (fun t _ _ _ => ReflectliteType.toType t) #[.agg #[.pointer (some ⟨2, 44, none⟩), .pointer (some a), .int .u64 150]]).run Tryd.prog w
    = .ok (.iface 83 (.agg #[.pointer (some ⟨2, 44, none⟩)])) w := by kernel_rfl
theorem rl_valueN (m : ByteArray) (w : World) : (ReflectliteValue.unpack (.iface 42 (.string m))).run Tryd.prog w
    = .ok (.agg #[.pointer (some ⟨2, 42, none⟩), .pointer (some ⟨w.heap.size, 0, none⟩), .int .u64 152]) (w.alloc (.cells #[.string m] 42)) := by kernel_rfl

theorem rl_kindM (h : Value) (w : World) : (Go.method 265 83 (.agg #[h]) "Kind").run Tryd.prog w = .ok (98, h) w := by kernel_rfl
theorem rl_kindP (w : World) : ((ReflectliteType.abiMethod fun t => (fun a : Nat => Value.int IntKind.u8 (a : Int)) <$> Rtype.kind t) #[.pointer (some ⟨2, 44, none⟩)]).run Tryd.prog w = .ok (.int .u8 22) w := by kernel_rfl
theorem rl_kindN (w : World) : ((ReflectliteType.abiMethod fun t => (fun a : Nat => Value.int IntKind.u8 (a : Int)) <$> Rtype.kind t) #[.pointer (some ⟨2, 42, none⟩)]).run Tryd.prog w = .ok (.int .u8 24) w := by kernel_rfl
theorem rl_m (z : Sem Value) (f : TypeId → Addr → Nat → Nat → Sem Value) (v : Value) :
    ReflectliteValue.method z f #[v] = (do match ← ReflectliteValue.parts v with | none => z | some (t, a, fl) => f t a fl (fl % 32)) := rfl
theorem rl_partsP (a : Addr) (w : World) : (ReflectliteValue.parts (.agg #[.pointer (some ⟨2, 44, none⟩), .pointer (some a), .int .u64 150])).run Tryd.prog w = .ok (some (44, a, 150)) w := by kernel_rfl
theorem rl_isNil (a p : Addr) (W : World) (ha : W.cell? a = some (.pointer (some p))) :
    (ReflectliteValue.method (ReflectliteValue.valueError "reflectlite.Value.IsNil" 0) ReflectliteValue.isNil #[.agg #[.pointer (some ⟨2, 44, none⟩), .pointer (some a), .int .u64 150]]).run Tryd.prog W = .ok (.bool false) W := by
  rw [rl_m]
  simp only [Sem.run_bind, rl_partsP, Result.andThen]
  simp [ReflectliteValue.isNil, loadVar, isAgg, underlying, Tryd.underlying44, ha, Result.andThen]
theorem rl_elemM (h : Value) (w : World) : (Go.method 265 83 (.agg #[h]) "Elem").run Tryd.prog w = .ok (108, .agg #[h]) w := by kernel_rfl
theorem rl_implM (h : Value) (w : World) : (Go.method 265 83 (.agg #[h]) "Implements").run Tryd.prog w = .ok (109, .agg #[h]) w := by kernel_rfl
theorem rl_assM (h : Value) (w : World) : (Go.method 265 83 (.agg #[h]) "AssignableTo").run Tryd.prog w = .ok (106, .agg #[h]) w := by kernel_rfl
theorem rl_elemP (w : World) : (ReflectliteType.method ReflectliteType.elem #[.agg #[.pointer (some ⟨2, 44, none⟩)]]).run Tryd.prog w = .ok (.iface 83 (.agg #[.pointer (some ⟨2, 42, none⟩)])) w := by kernel_rfl
theorem rl_implN (w : World) : (ReflectliteType.relation "Implements" ReflectliteType.implements_ #[.agg #[.pointer (some ⟨2, 42, none⟩)], .iface 83 (.agg #[.pointer (some ⟨2, 39, none⟩)])]).run Tryd.prog w = .ok (.bool true) w := by kernel_rfl
theorem rl_typeOf (v : Value) (w : World) : (ReflectliteType.typeOf #[.iface 42 v]).run Tryd.prog w = .ok (.iface 83 (.agg #[.pointer (some ⟨2, 42, none⟩)])) w := by kernel_rfl
theorem rl_assN (w : World) : (ReflectliteType.relation "AssignableTo" ReflectliteType.assignableTo #[.agg #[.pointer (some ⟨2, 42, none⟩)], .iface 83 (.agg #[.pointer (some ⟨2, 42, none⟩)])]).run Tryd.prog w = .ok (.bool true) w := by kernel_rfl
theorem rl_elemOf (w : World) : (Rtype.elem? 44).run Tryd.prog w = .ok (some 42) w := by kernel_rfl
theorem rl_mkN (p : Addr) (w : World) : (ReflectliteValue.mk 42 p ReflectliteValue.flagAddr).run Tryd.prog w = .ok (.agg #[.pointer (some ⟨2, 42, none⟩), .pointer (some p), .int .u64 408]) w := by kernel_rfl
theorem rl_elemV (a p : Addr) (W : World) (ha : W.cell? a = some (.pointer (some p))) :
    (ReflectliteValue.method (ReflectliteValue.valueError "reflectlite.Value.Elem" 0) ReflectliteValue.elem #[.agg #[.pointer (some ⟨2, 44, none⟩), .pointer (some a), .int .u64 150]]).run Tryd.prog W
      = .ok (.agg #[.pointer (some ⟨2, 42, none⟩), .pointer (some p), .int .u64 408]) W := by
  rw [rl_m]
  simp only [Sem.run_bind, rl_partsP, Result.andThen]
  simp [ReflectliteValue.elem, loadVar, isAgg, underlying, Tryd.underlying44, ha, Result.andThen, rl_elemOf, rl_mkN]
theorem rl_s (v x : Value) : ReflectliteValue.set #[v, x] = (do
    let (some (dst, a, fl), some (src, b, _)) := (← ReflectliteValue.parts v, ← ReflectliteValue.parts x)
      | unsupported (.noEntry "extern/(internal/reflectlite.Value).Set.zeroValue")
    if fl / ReflectliteValue.flagAddr % 2 == 0 then unsupported (.noEntry "extern/(internal/reflectlite.Value).Set.unaddressable")
    let val ← loadVar src b
    if ← Rtype.directlyAssignable dst src then storeVar dst a val
    else if ← Rtype.implements dst src then
      if (← Rtype.kind src) == 20 then
        match val with
        | .nilIface => unsupported (.noEntry "extern/reflectlite: a nil value of one interface type handed on as a value of another")
        | _ => storeVar dst a val
      else storeVar dst a (.iface src val)
    else panicString ("reflectlite.Set: value of type " ++ (← Rtype.spelt src) ++ " is not assignable to type " ++ (← Rtype.spelt dst))
    pure (.tuple #[])) := rfl
theorem rl_partsNa (a : Addr) (w : World) : (ReflectliteValue.parts (.agg #[.pointer (some ⟨2, 42, none⟩), .pointer (some a), .int .u64 408])).run Tryd.prog w = .ok (some (42, a, 408)) w := by kernel_rfl
theorem rl_partsN (a : Addr) (w : World) : (ReflectliteValue.parts (.agg #[.pointer (some ⟨2, 42, none⟩), .pointer (some a), .int .u64 152])).run Tryd.prog w = .ok (some (42, a, 152)) w := by kernel_rfl
theorem rl_directN (w : World) : (Rtype.directlyAssignable 42 42).run Tryd.prog w = .ok true w := by kernel_rfl
theorem rl_set (ta b : Addr) (m : ByteArray) (old : Value) (W : World) (hb : W.cell? b = some (.string m)) (ht : W.cell? ta = some old) (hf : W.frozen? ta = false) :
    (ReflectliteValue.set #[.agg #[.pointer (some ⟨2, 42, none⟩), .pointer (some ta), .int .u64 408], .agg #[.pointer (some ⟨2, 42, none⟩), .pointer (some b), .int .u64 152]]).run Tryd.prog W
      = .ok (.tuple #[]) (W.setCell ta (.string m)) := by
  rw [rl_s]
  simp only [Sem.run_bind, rl_partsNa, rl_partsN, Result.andThen]
  simp [ReflectliteValue.flagAddr, loadVar, isAgg, underlying, Tryd.underlying42, hb, Result.andThen, rl_directN, storeVar, Value.cells, storeCells, Addr.add]
  rw [run_store Tryd.prog W ta _ _ (by rfl)]
  simp [ht, hf]

set_option maxRecDepth 100000 in
set_option maxHeartbeats 4000000 in
theorem as_hit (m : ByteArray) (t : Addr) (old : Value) (w : World) (hg : w.cell? ⟨0, 0, none⟩ = some (.iface 83 (.agg #[.pointer (some ⟨2, 39, none⟩)]))) (ht0 : w.cell? t = some old) (hf0 : w.frozen? t = false) :
    Calls Tryd.prog 14 #[.iface 42 (.string m), .iface 44 (.pointer (some t))] w fun ev w' => ev = .returned (.bool true) ∧ w' = ((((w.alloc (.cells #[.pointer (some t)] 44)).alloc (.cells #[.pointer (some ⟨2, 44, none⟩), .pointer (some ⟨w.heap.size, 0, none⟩), .int .u64 150] 62)).alloc (.cells #[.pointer (some ⟨2, 44, none⟩), .pointer (some ⟨w.heap.size, 0, none⟩), .int .u64 150] 62)).alloc (.cells #[.string m] 42)).setCell t (.string m) := by
  have h6 := @run_callFunc_extern Tryd.prog 28 _ (fun args => ReflectliteValue.unpack (args.getD 0 (.tuple #[]))) Tryd.func28 (by kernel_rfl) (by kernel_rfl) (by kernel_rfl) (by kernel_rfl)
  have h7 := @run_callFunc_extern Tryd.prog 29 _ (ReflectliteValue.methodAny (ReflectliteValue.valueError "reflectlite.Value.Type" 0) (fun t _ _ _ => ReflectliteType.toType t)) Tryd.func29 (by kernel_rfl) (by kernel_rfl) (by kernel_rfl) (by kernel_rfl)
  have h8 := @run_callFunc_extern Tryd.prog 30 _ (ReflectliteValue.method (ReflectliteValue.valueError "reflectlite.Value.IsNil" 0) ReflectliteValue.isNil) Tryd.func30 (by kernel_rfl) (by kernel_rfl) (by kernel_rfl) (by kernel_rfl)
  have h27 := @run_callFunc_extern Tryd.prog 98 _ (ReflectliteType.abiMethod fun t => do pure (.int .u8 (← Rtype.kind t))) Tryd.func98 (by kernel_rfl) (by kernel_rfl) (by kernel_rfl) (by kernel_rfl)
  have h37 := @run_callFunc_extern Tryd.prog 108 _ (ReflectliteType.method ReflectliteType.elem) Tryd.func108 (by kernel_rfl) (by kernel_rfl) (by kernel_rfl) (by kernel_rfl)
  have h38 := @run_callFunc_extern Tryd.prog 109 _ (ReflectliteType.relation "Implements" ReflectliteType.implements_) Tryd.func109 (by kernel_rfl) (by kernel_rfl) (by kernel_rfl) (by kernel_rfl)
  have h10 := @run_callFunc_extern Tryd.prog 43 _ ReflectliteType.typeOf Tryd.func43 (by kernel_rfl) (by kernel_rfl) (by kernel_rfl) (by kernel_rfl)
  have h35 := @run_callFunc_extern Tryd.prog 106 _ (ReflectliteType.relation "AssignableTo" ReflectliteType.assignableTo) Tryd.func106 (by kernel_rfl) (by kernel_rfl) (by kernel_rfl) (by kernel_rfl)
  have h11 := @run_callFunc_extern Tryd.prog 44 _ (ReflectliteValue.method (ReflectliteValue.valueError "reflectlite.Value.Elem" 0) ReflectliteValue.elem) Tryd.func44 (by kernel_rfl) (by kernel_rfl) (by kernel_rfl) (by kernel_rfl)
  have h12 := @run_callFunc_extern Tryd.prog 45 _ ReflectliteValue.set Tryd.func45 (by kernel_rfl) (by kernel_rfl) (by kernel_rfl) (by kernel_rfl)
  have tO := rl_typeOf
  have mA := rl_assM
  have aN := rl_assN
  have vN := rl_valueN
  have f6 := rl_valueP
  have f7 := rl_typeP
  have mK := rl_kindM
  have mE := rl_elemM
  have mI := rl_implM
  have kP := rl_kindP
  have kN := rl_kindN
  have eP := rl_elemP
  have iN := rl_implN
  have n8 := rl_isNil ⟨w.heap.size, 0, none⟩ t ((w.alloc (.cells #[.pointer (some t)] 44)).alloc (.cells #[.pointer (some ⟨2, 44, none⟩), .pointer (some ⟨w.heap.size, 0, none⟩), .int .u64 150] 62)) (by simp)
  have hlt : 0 < w.heap.size := by
    rcases Nat.eq_zero_or_pos w.heap.size with h0 | h
    · simp [World.cell?, h0] at hg
    · exact h
  have hg2 : ((w.alloc (.cells #[.pointer (some t)] 44)).alloc (.cells #[.pointer (some ⟨2, 44, none⟩), .pointer (some ⟨w.heap.size, 0, none⟩), .int .u64 150] 62)).cell? ⟨0, 0, none⟩ = some (.iface 83 (.agg #[.pointer (some ⟨2, 39, none⟩)])) := by
    rw [World.cell?_alloc_lt _ _ ⟨0, 0, none⟩ (by simp), World.cell?_alloc_lt _ _ ⟨0, 0, none⟩ hlt]; exact hg
  have htl : t.block < w.heap.size := by
    rcases Nat.lt_or_ge t.block w.heap.size with h | h
    · exact h
    · simp [World.cell?, Array.getElem?_eq_none h] at ht0
  have el := rl_elemV ⟨w.heap.size, 0, none⟩ t (((w.alloc (.cells #[.pointer (some t)] 44)).alloc (.cells #[.pointer (some ⟨2, 44, none⟩), .pointer (some ⟨w.heap.size, 0, none⟩), .int .u64 150] 62)).alloc (.cells #[.pointer (some ⟨2, 44, none⟩), .pointer (some ⟨w.heap.size, 0, none⟩), .int .u64 150] 62)) (by rw [World.cell?_alloc_lt _ _ ⟨w.heap.size, 0, none⟩ (by simp; omega)]; simp)
  have st := rl_set t ⟨w.heap.size + 1 + 1 + 1, 0, none⟩ m old ((((w.alloc (.cells #[.pointer (some t)] 44)).alloc (.cells #[.pointer (some ⟨2, 44, none⟩), .pointer (some ⟨w.heap.size, 0, none⟩), .int .u64 150] 62)).alloc (.cells #[.pointer (some ⟨2, 44, none⟩), .pointer (some ⟨w.heap.size, 0, none⟩), .int .u64 150] 62)).alloc (.cells #[.string m] 42))
    (by rw [World.cell?_alloc_at _ _ _ _ (by simp)]; rfl)
    (by rw [World.cell?_alloc_lt _ _ t (by simp; omega), World.cell?_alloc_lt _ _ t (by simp; omega), World.cell?_alloc_lt _ _ t (by simp; omega), World.cell?_alloc_lt _ _ t htl]; exact ht0)
    (by rw [World.frozen?_alloc_old _ _ t (by simp; omega), World.frozen?_alloc_old _ _ t (by simp; omega), World.frozen?_alloc_old _ _ t (by simp; omega), World.frozen?_alloc_old _ _ t (Nat.ne_of_lt htl)]; exact hf0)
  go_enter Tryd.func14, Tryd.ntmps14
  go_wp2
  refine wp_loop_rounds 1 ?_
  rw [rounds_succ]
  go_wp2
  go_ret
  exact ⟨rfl, rfl⟩

end Go.Proofs.YtdhmicpoigoleabDoor

/- The contract of the program's 'SeriesTurned'. -/

namespace Go.Proofs.YtdhmicpoigoleabDoor
open Go.RowKit Go.Shelf

/-- The library's own variable for the type 'error' is laid. -/
def LaidE (w : World) : Prop := w.cell? ⟨0, 0, none⟩ = some (.iface 83 (.agg #[.pointer (some ⟨2, 39, none⟩)]))
theorem LaidE.lt {w : World} (h : LaidE w) : 0 < w.heap.size := by
  rcases Nat.eq_zero_or_pos w.heap.size with h0 | h1
  · unfold LaidE at h; simp [World.cell?, h0] at h
  · exact h1
theorem LaidE.below {w w' : World} {n : Nat} (h : LaidE w) (hb : Below n w w') (hn : 0 < n) : LaidE w' := (hb.cell (p := ⟨0, 0, none⟩) hn).trans h

theorem as_any (m : ByteArray) (base : Nat) (w : World) (hg : LaidE w) (hbase : base ≤ w.heap.size) (h0 : 0 < base) :
    Calls Tryd.prog 14 #[.iface 42 (.string m), .iface 44 (.pointer (some ⟨w.heap.size, 0, none⟩))] (w.alloc (.cells #[.string { data := #[] }] 42))
      fun ev w' => ev = .returned (.bool true) ∧ Below base w w' := by
  have hb : Below base w (w.alloc (.cells #[.string { data := #[] }] 42)) := (Below.refl _ w).alloc hbase _
  have bx := Boxed.new w 42 (.string { data := #[] })
  have hgl := (hg.below hb h0)
  unfold LaidE at hgl
  refine (as_hit m ⟨w.heap.size, 0, none⟩ (.string { data := #[] }) _ hgl bx.cell bx.frozen).mono ?_
  rintro e w' ⟨rfl, rfl⟩
  refine ⟨rfl, ?_⟩
  refine Below.setCell (p := ⟨w.heap.size, 0, none⟩) ?_ hbase _
  exact (((hb.alloc (by simp; omega) _).alloc (by simp; omega) _).alloc (by simp; omega) _).alloc (by simp; omega) _

set_option maxRecDepth 100000 in
set_option maxHeartbeats 4000000 in
theorem iSeriesTurned_any (a : Option Addr) (cap n : Nat) (x : List Tm) (b : Bool) (w : World) (hg : LaidE w) (hx : IsTerms w a n x) (hb : serTurnB x = b) :
    Calls Tryd.prog 5 #[.slice a n cap] w (ITold w b (canonT (outL x 5))) := by
  have hp := hg.lt
  unfold serTurnB at hb
  have HX := Lib.hid hx
  have HG := Lib.hid hg
  clear hx hg
  cases hbx : serB x with
  | false =>
    rw [hbx] at hb
    obtain rfl : false = b := hb
    have HBX := Lib.hid hbx
    clear hbx
    go_enter Tryd.func5, Tryd.ntmps5
    go_wp2_with fail
    refine (seriesOf_no a cap n x _ HX.out HBX.out).mono ?_
    rintro e w1 ⟨rfl, hb1⟩
    go_wp2
    go_ret2
    exact ⟨⟨_, rfl, ownNil _ _⟩, hb1⟩
  | true =>
    rw [hbx, Bool.true_and] at hb
    have hcan := (serB_parts hbx).2.2
    have HBX := Lib.hid hbx
    cases hh : headB x with
    | false =>
      rw [hh] at hb
      obtain rfl : false = b := hb
      have hne : coefAt noS x ≠ 1 := by rw [head_coef hcan] at hh; exact of_decide_eq_false hh
      have HNE := Lib.hid hne
      clear hbx hcan hh hne
      go_enter Tryd.func5, Tryd.ntmps5
      go_wp2_with fail
      refine (seriesOf_yes a cap n x _ HX.out HBX.out).mono ?_
      rintro e w1 ⟨m, rfl, hlo, hm, hb1⟩
      have HM := Lib.hid hm
      have HB1 := Lib.hid hb1
      have hs1 := hb1.size
      clear hm hb1
      go_wp2_with fail
      refine (serInverse_head m x _ HM.out HNE.out).mono ?_
      rintro e w2 ⟨⟨g, rfl⟩, hb2⟩
      have HB2 := Lib.hid (HB1.out.trans (hb2.mono hs1))
      have hs2 := HB2.out.size
      have HG2 := Lib.hid (HG.out.below HB2.out hp)
      clear hb2
      go_wp2_with fail
      refine (as_any g w.heap.size w2 HG2.out hs2 hp).mono ?_
      rintro e w3 ⟨rfl, hb3⟩
      have HB3 := Lib.hid (HB2.out.trans hb3)
      clear hb3
      go_wp2
      go_ret2
      exact ⟨⟨_, rfl, ownNil _ _⟩, HB3.out⟩
    | true =>
      rw [hh, Bool.true_and] at hb
      have HHd := Lib.hid hh
      obtain ⟨r, hr⟩ : ∃ r, powsB x = r := ⟨_, rfl⟩
      rw [hr] at hb
      have HR := Lib.hid hr
      have HBB := Lib.hid hb
      clear hbx hcan hh hr hb
      go_enter Tryd.func5, Tryd.ntmps5
      go_wp2_with fail
      refine (seriesOf_yes a cap n x _ HX.out HBX.out).mono ?_
      rintro e w1 ⟨m, rfl, hlo, hm, hb1⟩
      have HM := Lib.hid hm
      have HB1 := Lib.hid hb1
      have hs1 := hb1.size
      clear hm hb1
      go_wp2_with fail
      refine (serInverse_any m x r _ HM.out HBX.out HHd.out HR.out).mono ?_
      rintro e w2 (⟨rfl, ⟨g, rfl⟩, hb2⟩ | ⟨rfl, ⟨m2, us, rfl, hlo2, hT, mU, hq⟩, hb2⟩)
      · obtain rfl : false = b := HBB.out
        have HB2 := Lib.hid (HB1.out.trans (hb2.mono hs1))
        have hs2 := HB2.out.size
        have HG2 := Lib.hid (HG.out.below HB2.out hp)
        clear hb2
        go_wp2_with fail
        refine (as_any g w.heap.size w2 HG2.out hs2 hp).mono ?_
        rintro e w3 ⟨rfl, hb3⟩
        have HB3 := Lib.hid (HB2.out.trans hb3)
        clear hb3
        go_wp2
        go_ret2
        exact ⟨⟨_, rfl, ownNil _ _⟩, HB3.out⟩
      · have hlu := apart_len341 hT.apart mU
        have HC := Lib.hid (canon_same hq)
        have hB2 : Below w.heap.size w w2 := HB1.out.trans (hb2.mono hs1)
        have hB3 := hB2.alloc hB2.size (.cells #[.string { data := #[] }] 42)
        have HT := Lib.hid (hT.kept (grown_of_below ((Below.refl _ w2).alloc (Nat.le_refl _) (.cells #[.string { data := #[] }] 42))) (by simp))
        have hs3 := hB3.size
        have HB3 := Lib.hid hB3
        have HBB2 : Hid (twS (canonT (outL x 5)) = b) := Lib.hid (by rw [← HBB.out, Bool.true_and])
        clear hT mU hq hb2 hB2 hB3
        go_wp2_with fail
        refine (as_nil _ _).mono ?_
        rintro e w3 ⟨rfl, rfl⟩
        go_wp2_with fail
        refine (seriesTold_any m2 us b _ HT.out (by omega) (by rw [HC.out]; exact HBB2.out)).mono ?_
        rintro e w4 ⟨⟨v, rfl, ho⟩, hb4⟩
        rw [HC.out] at ho
        have HO := Lib.hid ho
        have HB4 := Lib.hid (HB3.out.trans (hb4.mono hs3))
        clear ho hb4
        go_wp2
        go_ret2
        exact ⟨⟨_, rfl, HO.out.mono hs3⟩, HB4.out⟩

/-! ### As a law wants them -/
theorem sSeriesTurned_law {g c n : Nat} {x : List Tm} {b : Bool} {w : World} (hx : IsTerms w (some ⟨g, 0, none⟩) n x) (hb : serTurnB x = b) :
    Calls Tryd.prog 6 #[.slice (some ⟨g, 0, none⟩) n c] w (STold w b (canonT (outL x 5))) := sSeriesTurned_any _ c n x b w hx hb
theorem iSeriesTurned_law {g c n : Nat} {x : List Tm} {b : Bool} {w : World} (hg : LaidE w) (hx : IsTerms w (some ⟨g, 0, none⟩) n x) (hb : serTurnB x = b) :
    Calls Tryd.prog 5 #[.slice (some ⟨g, 0, none⟩) n c] w (ITold w b (canonT (outL x 5))) := iSeriesTurned_any _ c n x b w hg hx hb

end Go.Proofs.YtdhmicpoigoleabDoor

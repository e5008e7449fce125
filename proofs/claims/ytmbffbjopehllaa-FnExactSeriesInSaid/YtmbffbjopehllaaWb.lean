/- The contracts of the model's 'l4Times', 'l4Done' and 'SeriesTimes'. -/
import Derived.Test.YtmbffbjopehllaaWa
import Derived.Test.YtmbffbjopehllaaVe
namespace Go.Proofs.Ytmbffbjopehllaa
open Go.RowKit Go.Shelf

/-- The product of two terms whose words are put one behind the other; those of all pairs that are not too long. -/
def pairS (t u : Tm) : Tm := ⟨t.c * u.c, t.s ++ u.s⟩
def short (t : Tm) : Bool := decide (t.s.size ≤ 4)
def pairsS (x y : List Tm) : List Tm := x.flatMap fun t => (y.map (pairS t)).filter short
theorem pairsS_succ (x y : List Tm) (k : Nat) (h : k < x.length) : pairsS (x.take (k + 1)) y = pairsS (x.take k) y ++ (y.map (pairS x[k])).filter short := by
  unfold pairsS
  rw [List.take_succ_eq_append_getElem h, List.flatMap_append]
  simp
def rowS (t : Tm) (y : List Tm) : List Tm := (y.map (pairS t)).filter short
theorem rowS_succ (t : Tm) (y : List Tm) (j : Nat) (h : j < y.length) : rowS t (y.take (j + 1)) = rowS t (y.take j) ++ (if (t.s ++ y[j].s).size ≤ 4 then [pairS t y[j]] else []) := by
  unfold rowS
  rw [map_succ (pairS t) y j h, List.filter_append, List.filter_cons, List.filter_nil]
  congr 1
  by_cases hs : (t.s ++ y[j].s).size ≤ 4
  · rw [if_pos (show short (pairS t y[j]) = true from decide_eq_true hs), if_pos hs]
  · rw [if_neg (show ¬ short (pairS t y[j]) = true by unfold short pairS; simpa using hs), if_neg hs]

/-- What fits into the products of series. -/
def SerL (x : List Tm) : Prop := x.length ≤ 400 ∧ ∀ t ∈ x, t.s.size ≤ 4 ∧ -1000000 ≤ t.c ∧ t.c ≤ 1000000

set_option maxRecDepth 100000 in
set_option maxHeartbeats 8000000 in
theorem l4Times_any (a1 a2 : Option Addr) (c1 c2 n m : Nat) (x y : List Tm) (w : World) (hx : IsTerms w a1 n x) (hy : IsTerms w a2 m y) (hsx : SerL x) (hsy : SerL y) :
    Calls Try.prog 43 #[.slice a1 n c1, .slice a2 m c2] w fun e w' => (∃ v, e = .returned v ∧ Acc w.heap.size w' v (canonT (pairsS x y)) 160000 160000000000000000) ∧ Below w.heap.size w w' := by
  obtain ⟨hlx, hwx⟩ := hsx
  obtain ⟨hly, hwy⟩ := hsy
  have hn : n ≤ 400 := by rw [← hx.len]; exact hlx
  have hm : m ≤ 400 := by rw [← hy.len]; exact hly
  have HX := Lib.hid hx
  have HY := Lib.hid hy
  have HWX := Lib.hid hwx
  have HWY := Lib.hid hwy
  have hmx : Try.prog.follows .mixedOrders = true := by kernel_rfl
  have HN := Lib.hid (acc_zero w)
  clear hx hy hlx hwx hly hwy
  go_enter Try.func43, Try.ntmps43
  go_wp2
  go_loopw [5, 6] (fun v i wr => ∃ k : Nat, k ≤ n ∧ i = .int .i64 k ∧ Hid (Acc w.heap.size wr v ((pairsS (x.take k) y).foldl addT []) (400 * k) (400000000000000 * k)) ∧ Below w.heap.size w wr) (fun _ i _ => n - (intOf i).toNat)
  case atStart => exact ⟨0, Nat.zero_le _, rfl, HN, (Below.refl _ _).alloc (Nat.le_refl _) _⟩
  case round =>
    obtain ⟨k, hk, rfl, HA, hB⟩ := hrel
    by_cases hlt : k < n
    · have hkx : k < x.length := by rw [HX.out.len]; exact hlt
      obtain ⟨z, rfl, hz⟩ := HX.out.at_ (by omega)
      obtain ⟨t, ht⟩ : ∃ t, x[k] = t := ⟨_, rfl⟩
      have htb := HWX.out _ (List.getElem_mem hkx)
      rw [ht] at htb
      have HTI := Lib.hid htb
      have HT := Lib.hid ht
      have HZ := Lib.hid hz
      clear ht htb hz
      go_wp2
      go_loopw [5, 7] (fun v i wr => ∃ j : Nat, j ≤ m ∧ i = .int .i64 j ∧ Hid (Acc w.heap.size wr v ((pairsS (x.take k) y ++ rowS t (y.take j)).foldl addT []) (400 * k + j) (400000000000000 * k + 1000000000000 * j)) ∧ Below w.heap.size w wr) (fun _ i _ => m - (intOf i).toNat)
      case atStart => exact ⟨0, Nat.zero_le _, rfl, Lib.hid (by simpa [rowS] using HA.out), hB⟩
      case round =>
        obtain ⟨j, hj, rfl, HAj, hBj⟩ := hrel
        by_cases hltj : j < m
        · have hjy : j < y.length := by rw [HY.out.len]; exact hltj
          obtain ⟨zy, rfl, hzy⟩ := HY.out.at_ (by omega)
          obtain ⟨u, hu⟩ : ∃ u, y[j] = u := ⟨_, rfl⟩
          have hub := HWY.out _ (List.getElem_mem hjy)
          rw [hu] at hub
          have hzw := HZ.out.below hBj
          have hzyw := hzy.below hBj
          have hc := hzw.2 k hkx
          have hcy := hzyw.2 j hjy
          have hbz := hzw.1
          have hbzy := hzyw.1
          rw [HT.out, addr_next] at hc
          rw [hu, addr_next] at hcy
          obtain ⟨c0, d1⟩ := hc
          obtain ⟨e0, f1⟩ := hcy
          have hrow := rowS_succ t y j hjy
          rw [hu] at hrow
          obtain ⟨q, hq⟩ : ∃ q, t.s ++ u.s = q := ⟨_, rfl⟩
          rw [hq] at hrow
          have hti := HTI.out
          have hqs : q.size = t.s.size + u.s.size := by rw [← hq]; exact ByteArray.size_append
          have hnot : ¬ 9223372036854775807 < t.s.size + u.s.size := by omega
          have hpt : pairS t u = ⟨t.c * u.c, q⟩ := by unfold pairS; rw [hq]
          rw [hpt] at hrow
          have HMB := Lib.hid (mul_bnd hti.2 hub.2)
          have hmul : IntKind.i64.wrap (t.c * u.c) = t.c * u.c := by have := HMB.out; exact IntWalk.i64_in _ (by omega)
          have v0 := BelowBy.cell (w := wr) (by show (z.add (k * 2)).block < _; rw [addr_add_block]; exact hbz) d1
          have v1 := BelowBy.cell (w := wr) (by show (zy.add (j * 2)).block < _; rw [addr_add_block]; exact hbzy) f1
          have HROW := Lib.hid hrow
          have HC0 := Lib.hid c0
          have HE0 := Lib.hid e0
          have HBZ := Lib.hid hbz
          have HBZY := Lib.hid hbzy
          have HMUL := Lib.hid hmul
          have HQS := Lib.hid hqs
          clear hu hub hti hzw hzyw hzy c0 d1 e0 f1 hrow hpt hmul hqs
          go_wp2
          refine wp_region_below hmx (by kernel_rfl) ?_
          repeat (((with_reducible refine wpQuiet_step (fun K hK => ?_)); go_simp; first | ((with_reducible refine hK _ ?_); clear hK K) | (refine (if_neg (by decide)).mpr ?_; (with_reducible refine hK _ ?_); clear hK K)))
          with_reducible refine wpQuiet_nil ?_
          rintro W ⟨⟨W, hW⟩, rfl⟩
          clear v0 v1
          have hBW : Below w.heap.size w W := hBj.trans (hW.mono hBj.size)
          have HAW := Lib.hid (HAj.out.below hW)
          have c0 := (hW.cell (p := z.add (k * 2)) (by rw [addr_add_block]; exact HBZ.out)).trans HC0.out
          have e0 := (hW.cell (p := zy.add (j * 2)) (by rw [addr_add_block]; exact HBZY.out)).trans HE0.out
          have hmul := HMUL.out
          change Exit.then _ _ _ _ W
          by_cases hqs4 : q.size ≤ 4
          · have HROW2 : Hid (rowS t (y.take (j + 1)) = rowS t (y.take j) ++ [⟨t.c * u.c, q⟩]) := Lib.hid (by rw [HROW.out, if_pos hqs4])
            go_wp2
            go_still_tail 13, hmx
            change wpList _ _ _ _ _ W.drew
            go_wp2_with fail
            refine (step_any w.heap.size u5 _ _ _ 1000000000000 (t.c * u.c) q W.drew (HAW.out.below (Below.refl _ _).drew) (by omega) (by omega) (by omega) (by omega) HMB.out (by omega) hBW.size).mono ?_
            rintro e w4 ⟨⟨v', rfl, ho⟩, hb4⟩
            have hB4 : Below w.heap.size w w4 := hBW.trans (((Below.refl _ _).drew.trans hb4).mono hBW.size)
            have HO := Lib.hid ho
            clear ho hb4
            go_wp2
            go_roundw
            case rel =>
              refine ⟨j + 1, by omega, by go_num, Lib.hid ?_, hB4⟩
              rw [HROW2.out, ← List.append_assoc, List.foldl_append]
              exact HO.out.more (by omega) (by omega)
            case measure => simp [intOf]; omega
          · have HROW2 : Hid (rowS t (y.take (j + 1)) = rowS t (y.take j)) := Lib.hid (by rw [HROW.out, if_neg hqs4, List.append_nil])
            go_wp2
            go_roundw
            case rel =>
              refine ⟨j + 1, by omega, by go_num, Lib.hid ?_, hBW⟩
              rw [HROW2.out]
              exact HAW.out.more (by omega) (by omega)
            case measure => simp [intOf]; omega
        · obtain rfl : j = m := by omega
          go_wp2
          go_roundw
          case rel =>
            refine ⟨k + 1, by omega, by go_num, Lib.hid ?_, hBj⟩
            have h := HAj.out
            rw [show y.take j = y from List.take_of_length_le (by rw [HY.out.len]; exact Nat.le_refl _)] at h
            rw [pairsS_succ x y k hkx, HT.out]
            exact h.more (by omega) (by omega)
          case measure => simp [intOf]; omega
    · obtain rfl : k = n := by omega
      have hacc := HA.out
      rw [List.take_of_length_le (by rw [HX.out.len]; exact Nat.le_refl _)] at hacc
      have HAcc := Lib.hid hacc
      clear hacc
      go_wp2
      go_ret
      exact ⟨⟨_, rfl, HAcc.out.more (by omega) (by omega)⟩, hB⟩

/-! ### Told -/
theorem serB_is (ts : List Tm) : serB ts = ((List.range ts.length).all (serAt ts) && decide (ts.length ≤ 400)) := rfl
theorem serB_parts {ts : List Tm} (h : serB ts = true) : ts.length ≤ 400 ∧ (∀ t ∈ ts, t.c ≠ 0 ∧ (-1000000 ≤ t.c ∧ t.c ≤ 1000000) ∧ monoB t.s = true) ∧ Canon ts := by
  rw [serB_is] at h
  simp only [Bool.and_eq_true, decide_eq_true_eq] at h
  obtain ⟨h1, h2⟩ := h
  have hat : ∀ j (hj : j < ts.length), ts[j].c ≠ 0 ∧ (-1000000 ≤ ts[j].c ∧ ts[j].c ≤ 1000000) ∧ monoB ts[j].s = true ∧ (j = 0 ∨ lessW (ts.getD (j - 1) default).s (ts.getD j default).s = true) := fun j hj => by
    have h3 := List.all_eq_true.1 h1 j (List.mem_range.2 hj)
    have hg : ts.getD j default = ts[j] := by rw [List.getD_eq_getElem?_getD, List.getElem?_eq_getElem hj]; rfl
    unfold serAt inR at h3
    simp only [Bool.and_eq_true, bne_iff_ne, ne_eq, Bool.or_eq_true, decide_eq_true_eq] at h3
    rw [hg] at h3 ⊢
    exact ⟨h3.1.1.1, h3.1.1.2, h3.1.2, h3.2⟩
  refine ⟨h2, fun t ht => ?_, pairwise_lessW fun k hk hk0 => ?_, fun t ht => ?_⟩
  · obtain ⟨j, hj, rfl⟩ := List.getElem_of_mem ht
    exact ⟨(hat j hj).1, (hat j hj).2.1, (hat j hj).2.2.1⟩
  · rcases (hat k hk).2.2.2 with h | h
    · omega
    · exact h
  · obtain ⟨j, hj, rfl⟩ := List.getElem_of_mem ht
    exact (hat j hj).1
theorem mono_size {s : ByteArray} (h : monoB s = true) : s.size ≤ 4 := by
  unfold monoB at h
  simp only [Bool.and_eq_true, decide_eq_true_eq] at h
  exact h.2
theorem serL_of {ts : List Tm} (h : serB ts = true) : SerL ts := by
  obtain ⟨h1, h2, _⟩ := serB_parts h
  exact ⟨h1, fun t ht => ⟨mono_size (h2 t ht).2.2, (h2 t ht).2.1⟩⟩
/-- For canonical lists only the terms have to be looked at. -/
def twS (ts : List Tm) : Bool := decide (ts.length ≤ 400) && ts.all fun t => inR (-1000000) 1000000 t.c && monoB t.s
theorem serB_canon {ts : List Tm} (h : Canon ts) : serB ts = twS ts := by
  rw [serB_is, Bool.and_comm]
  unfold twS
  congr 1
  have hg : ∀ j (h : j < ts.length), ts.getD j default = ts[j] := fun j h => by rw [List.getD_eq_getElem?_getD, List.getElem?_eq_getElem h]; rfl
  rw [Bool.eq_iff_iff]
  simp only [List.all_eq_true, List.mem_range]
  constructor
  · intro h1 t ht
    obtain ⟨j, hj, rfl⟩ := List.getElem_of_mem ht
    have h3 := h1 j hj
    unfold serAt at h3
    rw [hg j hj] at h3
    simp only [Bool.and_eq_true] at h3 ⊢
    exact ⟨h3.1.1.2, h3.1.2⟩
  · intro h1 j hj
    have h3 := h1 _ (List.getElem_mem hj)
    simp only [Bool.and_eq_true] at h3
    unfold serAt
    rw [hg j hj, h3.1, h3.2]
    have h4 : (ts[j].c != 0) = true := by simpa using h.2 _ (List.getElem_mem hj)
    rw [h4]
    by_cases hj0 : j = 0
    · simp [hj0]
    · have h5 := List.pairwise_iff_getElem.1 h.1 (j - 1) j (by omega) hj (by omega)
      rw [hg (j - 1) (by omega), h5]
      simp
theorem twS_parts {ts : List Tm} (h : twS ts = true) : ts.length ≤ 400 ∧ ∀ t ∈ ts, (-1000000 ≤ t.c ∧ t.c ≤ 1000000) ∧ monoB t.s = true := by
  unfold twS inR at h
  simp only [Bool.and_eq_true, decide_eq_true_eq, List.all_eq_true] at h
  exact h
theorem told_smallS {b : Bool} {L us : List Tm} (h : b = true → twS L = true) (hus : cond b L [] = us) : SmallT us ∧ us.length ≤ 400 := by
  cases b with
  | false => subst hus; exact ⟨⟨Nat.zero_le _, fun t h => by cases h⟩, Nat.zero_le _⟩
  | true =>
    have hus : L = us := hus
    subst hus
    obtain ⟨h1, h2⟩ := twS_parts (h rfl)
    exact ⟨⟨by unfold maxLen; omega, fun t ht => by have := h2 t ht; have := mono_size this.2; unfold maxLen; omega⟩, h1⟩
theorem sSeriesIn_is (a : Option Addr) (cap n : Nat) (ts : List Tm) (b : Bool) (w : World) (hs : IsTerms w a n ts) (hb : serB ts = b) :
    Calls Try.prog 12 #[.slice a n cap] w fun e w' => e = .returned (.bool b) ∧ Below w.heap.size w w' := by
  subst hb; exact sSeriesIn_any a cap n ts w hs

theorem s4Done_any (base : Nat) (v : Value) (ts : List Tm) (b : Bool) (w : World) (h : OwnTerms base w v ts) (hs : SmallT ts) (hbase : base ≤ w.heap.size) (hb : serB ts = b) :
    Calls Try.prog 45 #[v] w fun e w' => (∃ v', e = .returned (.tuple #[v', .bool b]) ∧ OwnTerms base w' v' (cond b ts [])) ∧ Below w.heap.size w w' := by
  obtain ⟨g, cap, rfl, h1, h2, h3, h4⟩ := h.form
  have HI : Hid (IsTerms w (some ⟨g, 0, none⟩) ts.length ts) := Lib.hid ⟨rfl, hs.1, fun _ => ⟨_, rfl, h1⟩, hs.2⟩
  obtain ⟨n, hn⟩ : ∃ n, ts.length = n := ⟨_, rfl⟩
  have HH := Lib.hid h
  rw [hn] at HI HH ⊢
  have HB := Lib.hid hb
  clear h h1 h2 h3 hs hb hn
  cases b with
  | true =>
    go_enter Try.func45, Try.ntmps45
    go_wp2_with fail
    refine (sSeriesIn_is _ cap n ts true _ HI.out HB.out).mono ?_
    rintro e w' ⟨rfl, hb⟩
    go_wp2
    go_ret2
    exact ⟨⟨_, rfl, HH.out.below hb⟩, hb⟩
  | false =>
    go_enter Try.func45, Try.ntmps45
    go_wp2_with fail
    refine (sSeriesIn_is _ cap n ts false _ HI.out HB.out).mono ?_
    rintro e w' ⟨rfl, hb⟩
    go_wp2
    go_ret2
    exact ⟨⟨_, rfl, (ownEmpty w').mono (Nat.le_trans hbase hb.size)⟩, hb.trans (((Below.refl _ _).alloc (Nat.le_refl _) _).mono hb.size)⟩

/-- What SeriesTimes answers. -/
def serProdB (x y : List Tm) : Bool := serB x && (serB y && twS (canonT (pairsS x y)))
theorem serProdB_tw {x y : List Tm} {b : Bool} (h : serProdB x y = b) : b = true → twS (canonT (pairsS x y)) = true := by
  intro hb
  subst hb
  unfold serProdB at h
  simp only [Bool.and_eq_true] at h
  exact h.2.2

set_option maxRecDepth 100000 in
set_option maxHeartbeats 4000000 in
theorem sSeriesTimes_no (a1 a2 : Option Addr) (c1 c2 n m : Nat) (x y : List Tm) (w : World) (hx : IsTerms w a1 n x) (hy : IsTerms w a2 m y) (hb : serB x = false ∨ serB y = false) :
    Calls Try.prog 20 #[.slice a1 n c1, .slice a2 m c2] w (STold w false []) := by
  have HX := Lib.hid hx
  have HY := Lib.hid hy
  clear hx hy
  cases hbx : serB x with
  | false =>
    have HBX := Lib.hid hbx
    clear hbx hb
    go_enter Try.func20, Try.ntmps20
    go_wp2_with fail
    refine (sSeriesIn_is a1 c1 n x false _ HX.out HBX.out).mono ?_
    rintro e w1 ⟨rfl, hb1⟩
    have HB1 := Lib.hid hb1
    clear hb1
    go_wp2
    go_ret2
    exact ⟨⟨_, rfl, (ownEmpty w1).mono HB1.out.size⟩, HB1.out.alloc HB1.out.size _⟩
  | true =>
    have hby : serB y = false := by rcases hb with h | h; · rw [h] at hbx; cases hbx
                                    · exact h
    have HBX := Lib.hid hbx
    have HBY := Lib.hid hby
    clear hbx hby hb
    go_enter Try.func20, Try.ntmps20
    go_wp2_with fail
    refine (sSeriesIn_is a1 c1 n x true _ HX.out HBX.out).mono ?_
    rintro e w1 ⟨rfl, hb1⟩
    have HB1 := Lib.hid hb1
    clear hb1
    go_wp2_with fail
    refine (sSeriesIn_is a2 c2 m y false _ (HY.out.below HB1.out) HBY.out).mono ?_
    rintro e w2 ⟨rfl, hb2⟩
    have HB2 := Lib.hid (HB1.out.trans (hb2.mono HB1.out.size))
    clear hb2
    go_wp2
    go_ret2
    exact ⟨⟨_, rfl, (ownEmpty w2).mono HB2.out.size⟩, HB2.out.alloc HB2.out.size _⟩

set_option maxRecDepth 100000 in
set_option maxHeartbeats 4000000 in
theorem sSeriesTimes_yes (a1 a2 : Option Addr) (c1 c2 n m : Nat) (x y : List Tm) (b : Bool) (w : World) (hx : IsTerms w a1 n x) (hy : IsTerms w a2 m y) (hbx : serB x = true) (hby : serB y = true) (hb : twS (canonT (pairsS x y)) = b) :
    Calls Try.prog 20 #[.slice a1 n c1, .slice a2 m c2] w (STold w b (canonT (pairsS x y))) := by
  have HX := Lib.hid hx
  have HY := Lib.hid hy
  have HBX := Lib.hid hbx
  have HBY := Lib.hid hby
  have HSb : Hid (serB (canonT (pairsS x y)) = b) := Lib.hid (by rw [serB_canon (canon_of _)]; exact hb)
  clear hx hy hbx hby hb
  go_enter Try.func20, Try.ntmps20
  go_wp2_with fail
  refine (sSeriesIn_is a1 c1 n x true _ HX.out HBX.out).mono ?_
  rintro e w1 ⟨rfl, hb1⟩
  have HB1 := Lib.hid hb1
  clear hb1
  go_wp2_with fail
  refine (sSeriesIn_is a2 c2 m y true _ (HY.out.below HB1.out) HBY.out).mono ?_
  rintro e w2 ⟨rfl, hb2⟩
  have HB2 := Lib.hid (HB1.out.trans (hb2.mono HB1.out.size))
  clear hb2
  go_wp2_with fail
  refine (l4Times_any a1 a2 c1 c2 n m x y _ (HX.out.below HB2.out) (HY.out.below HB2.out) (serL_of HBX.out) (serL_of HBY.out)).mono ?_
  rintro e w3 ⟨⟨v, rfl, ho⟩, hb3⟩
  have HO := Lib.hid ho
  have HB3 := Lib.hid (HB2.out.trans (hb3.mono HB2.out.size))
  have hbs := HB2.out.size
  clear ho hb3
  go_wp2_with fail
  refine (s4Done_any w.heap.size v (canonT (pairsS x y)) b _ (HO.out.own.mono hbs) (HO.out.small (by omega) (by omega)) HB3.out.size HSb.out).mono ?_
  rintro e w4 ⟨⟨v', rfl, ho⟩, hb4⟩
  have HO4 := Lib.hid ho
  clear ho
  go_wp2
  go_ret2
  exact ⟨⟨_, rfl, HO4.out⟩, HB3.out.trans (hb4.mono HB3.out.size)⟩

theorem sSeriesTimes_any (a1 a2 : Option Addr) (c1 c2 n m : Nat) (x y : List Tm) (b : Bool) (w : World) (hx : IsTerms w a1 n x) (hy : IsTerms w a2 m y) (hb : serProdB x y = b) :
    Calls Try.prog 20 #[.slice a1 n c1, .slice a2 m c2] w (STold w b (canonT (pairsS x y))) := by
  unfold serProdB at hb
  cases hbx : serB x with
  | false => rw [hbx] at hb; subst hb; exact sSeriesTimes_no _ _ _ _ _ _ x y w hx hy (.inl hbx)
  | true =>
    cases hby : serB y with
    | false => rw [hbx, hby] at hb; subst hb; exact sSeriesTimes_no _ _ _ _ _ _ x y w hx hy (.inr hby)
    | true => rw [hbx, hby] at hb; exact sSeriesTimes_yes _ _ _ _ _ _ x y b w hx hy hbx hby hb

end Go.Proofs.Ytmbffbjopehllaa

/- What the laws' proofs stand on, part 3 of 5. -/
import Derived.Deep.AppendLies
import Derived.IntWalk
import Derived.Shelf.SlSortCmp.WholeK
import Derived.Shelf.SlSortCmp.NoneTotal
import Derived.Laws.EntriesVeiled
import Derived.Deep.RegionLaw
import Derived.Deep.RegionWith
import Derived.Lib.SliceRun
import Derived.Test.YtebgcebjlbhjjabBa
import Derived.Test.YtebgcebjlbhjjabBb

/- The contracts of the model's 'l4Letter' and 'SeriesOf'. -/

namespace Go.Proofs.Ytebgcebjlbhjjab
open Go.RowKit Go.Shelf

def letX (c : UInt8) : List UInt8 := [UInt8.ofNat (97 + idxB c)]
/-- The sign of a power of an inverse letter. -/
def altZ (i : Nat) : Int := if i % 2 = 0 then 1 else -1
def powT (c : UInt8) (i : Nat) : Tm := ⟨altZ i, bstr (repL i (letX c))⟩
/-- The series of a letter. -/
def letS (c : UInt8) : List Tm := if 97 ≤ c.toNat then [⟨1, { data := #[] }⟩, ⟨1, bstr (letX c)⟩] else (List.range 5).map (powT c)
theorem let_cases {P : UInt8 → Prop} (h : ∀ n : Fin 8, P (UInt8.ofNat (if n.val < 4 then 97 + n.val else 61 + n.val))) {c : UInt8} (hc : letB c = true) : P c := by
  have h2 := (letB_iff c).1 hc
  have : ∃ n : Fin 8, c = UInt8.ofNat (if n.val < 4 then 97 + n.val else 61 + n.val) := by
    rcases h2 with h2 | h2
    · exact ⟨⟨c.toNat - 97, by omega⟩, UInt8.toNat_inj.1 (by rw [if_pos (by show c.toNat - 97 < 4; omega)]; rw [UInt8.toNat_ofNat', Nat.mod_eq_of_lt (by show 97 + (c.toNat - 97) < _; omega)]; show c.toNat = 97 + (c.toNat - 97); omega)⟩
    · exact ⟨⟨c.toNat - 61, by omega⟩, UInt8.toNat_inj.1 (by rw [if_neg (by show ¬ c.toNat - 61 < 4; omega)]; rw [UInt8.toNat_ofNat', Nat.mod_eq_of_lt (by show 61 + (c.toNat - 61) < _; omega)]; show c.toNat = 61 + (c.toNat - 61); omega)⟩
  obtain ⟨n, rfl⟩ := this
  exact h n
theorem letS_facts : ∀ n : Fin 8, (letS (UInt8.ofNat (if n.val < 4 then 97 + n.val else 61 + n.val))).all (fun t => monoB t.s && (inR (-1) 1 t.c)) = true ∧ (letS (UInt8.ofNat (if n.val < 4 then 97 + n.val else 61 + n.val))).length ≤ 5 ∧
    (List.range 5).all (fun e => decide (nrm e (letS (UInt8.ofNat (if n.val < 4 then 97 + n.val else 61 + n.val))) ≤ 1)) = true := by decide +kernel
theorem nrm_far {d : Nat} : ∀ {ts : List Tm}, (∀ t ∈ ts, t.s.size ≠ d) → nrm d ts = 0
  | [], _ => rfl
  | t :: r, h => by rw [nrm, if_neg (h t (by simp)), nrm_far fun u hu => h u (by simp [hu])]
theorem letS_ok {c : UInt8} (hc : letB c = true) : (∀ t ∈ letS c, monoB t.s = true ∧ -1 ≤ t.c ∧ t.c ≤ 1) ∧ (letS c).length ≤ 5 ∧ ∀ e, nrm e (letS c) ≤ 1 := by
  obtain ⟨h1, h2, h3⟩ := let_cases (P := fun c => (letS c).all (fun t => monoB t.s && (inR (-1) 1 t.c)) = true ∧ (letS c).length ≤ 5 ∧ (List.range 5).all (fun e => decide (nrm e (letS c) ≤ 1)) = true) letS_facts hc
  have h4 : ∀ t ∈ letS c, monoB t.s = true ∧ -1 ≤ t.c ∧ t.c ≤ 1 := fun t ht => by
    have := List.all_eq_true.1 h1 t ht
    unfold inR at this
    simp only [Bool.and_eq_true, decide_eq_true_eq] at this
    exact this
  refine ⟨h4, h2, fun e => ?_⟩
  by_cases he : e < 5
  · exact of_decide_eq_true (List.all_eq_true.1 h3 e (List.mem_range.2 he))
  · rw [nrm_far fun t ht => by have := mono_size (h4 t ht).1; omega]; omega
theorem letS_ser {c : UInt8} (hc : letB c = true) : SerL (letS c) := by
  obtain ⟨h1, h2, _⟩ := letS_ok hc
  exact ⟨by omega, fun t ht => by have := h1 t ht; have := mono_size this.1; omega⟩

/-- The series of a word. -/
def oneT : List Tm := [⟨1, { data := #[] }⟩]
def serW (l : List UInt8) : List Tm := l.foldl (fun out c => canonT (pairsS out (letS c))) oneT
theorem serW_snoc (l : List UInt8) (c : UInt8) : serW (l ++ [c]) = canonT (pairsS (serW l) (letS c)) := by unfold serW; rw [List.foldl_append]; rfl
structure SerOK (k : Nat) (x : List Tm) : Prop where
  ways : WaysIn k x
  canon : Canon x
  mono : ∀ t ∈ x, monoB t.s = true
theorem serOK_one : SerOK 0 oneT :=
  ⟨by unfold WaysIn; decide, ⟨by simp [oneT], fun t ht => by rw [List.mem_singleton.1 ht]; exact Int.one_ne_zero⟩, fun t ht => by rw [List.mem_singleton.1 ht]; decide⟩
theorem SerOK.step {k : Nat} {x : List Tm} {c : UInt8} (h : SerOK k x) (hc : letB c = true) : SerOK (k + 1) (canonT (pairsS x (letS c))) :=
  ⟨ways_step (letS_ok hc).2.2 h.ways, canon_of _, fun t ht => by
    obtain ⟨v, hv, e⟩ := canon_words ht
    rw [← e]
    exact pairsS_mono h.mono (fun u hu => ((letS_ok hc).1 u hu).1) v hv⟩
theorem SerOK.ser {k : Nat} {x : List Tm} (h : SerOK k x) (hk : k ≤ 60) : SerL x :=
  ⟨by have := canon_len341 h.canon h.mono; omega, fun t ht => by
    have h1 := mono_size (h.mono t ht)
    exact ⟨h1, ways_coef h.ways hk ht h1⟩⟩
theorem SerOK.told {k : Nat} {x : List Tm} (h : SerOK k x) (hk : k ≤ 60) : twS x = true := by
  obtain ⟨h1, h2⟩ := h.ser hk
  unfold twS inR
  rw [decide_eq_true h1, Bool.true_and]
  refine List.all_eq_true.2 fun t ht => ?_
  have := h2 t ht
  rw [h.mono t ht, decide_eq_true this.2.1, decide_eq_true this.2.2]; rfl
theorem serW_ok : ∀ (l : List UInt8), letL l = true → SerOK l.length (serW l) := by
  intro l
  generalize hn : l.length = n
  induction n generalizing l with
  | zero => intro _; rw [List.length_eq_zero_iff.1 hn]; exact serOK_one
  | succ n ih =>
    intro hl
    obtain ⟨p, c, rfl⟩ := last_split l (by omega)
    rw [letL_append, Bool.and_eq_true] at hl
    rw [serW_snoc]
    have hp : p.length = n := by rw [List.length_append] at hn; simp at hn; exact hn
    exact (ih p hp hl.1).step (by have := hl.2; simp [letL] at this; exact this)

theorem isTerms_ser {w : World} {ad : Option Addr} {n : Nat} {x : List Tm} (h : IsTerms w ad n x) : x.length = n := h.len

set_option maxRecDepth 100000 in
set_option maxHeartbeats 4000000 in
theorem l4Letter_any (c : UInt8) (w : World) (hc : letB c = true) :
    Calls Try.prog 99 #[.int .u8 (c.toNat : Int)] w fun e w' => (∃ v, e = .returned v ∧ OwnTerms w.heap.size w' v (letS c)) ∧ Below w.heap.size w w' := by
  obtain ⟨i0, hi, hz0, hz1, hz2⟩ := info_parts infoTerm
  obtain ⟨k, hk⟩ : ∃ k, idxB c = k := ⟨_, rfl⟩
  have hk4 : k < 4 := by rw [← hk]; exact idxB_lt c hc
  have hgn : ((UInt8.ofNat (97 + k)).toNat : Int) = 97 + (k : Int) := by rw [UInt8.toNat_ofNat', Nat.mod_eq_of_lt (by omega)]; omega
  have hr0 : 0 ≤ 97 + (k : Int) := by omega
  have hr1 : 97 + (k : Int) ≤ 255 := by omega
  obtain ⟨V, hV⟩ : ∃ V, w.alloc (.cells #[.int .i64 1, .string { data := #[] }] 54) = V := ⟨_, rfl⟩
  have hbV : Below w.heap.size w V := by rw [← hV]; exact (Below.refl _ _).alloc (Nat.le_refl _) _
  have hoV : V.ownsRow w.heap.size TI 2 (.slice (some ⟨w.heap.size, 0, none⟩) 1 1) 1 (termsV oneT) := by
    rw [← hV]
    exact ⟨rfl, .inr ⟨_, 1, #[.int .i64 1, .string { data := #[] }], rfl, Nat.le_refl _, heap_alloc_new w _, Nat.le_refl _, by decide, rfl, rfl⟩⟩
  have hzV : V.heap.size = w.heap.size + 1 := by rw [← hV]; simp
  obtain ⟨gx, hgx⟩ : ∃ gx, bstr (letX c) = gx := ⟨_, rfl⟩
  have hconv : (convert 22 9 (.slice (some ⟨V.heap.size, 0, none⟩) 1 1)).run Try.prog (V.alloc (.cells #[.int .u8 (97 + (k : Int))] 5)) = .ok (.string gx) (V.alloc (.cells #[.int .u8 (97 + (k : Int))] 5)) := by
    rw [← hgx]
    have := run_convert_bytes_back (P := Try.prog) (V.alloc (.cells #[.int .u8 (97 + (k : Int))] 5)) 22 9 5 ⟨V.heap.size, 0, none⟩ 1 (letX c) Try.underlying22 Try.underlying5 Try.underlying9 (fun j hj => by
      have hj0 : j = 0 := by simp [letX] at hj; exact hj
      subst hj0
      show (V.alloc _).cell? ((⟨V.heap.size, 0, none⟩ : Addr).add 0) = some (.int .u8 ((UInt8.ofNat (97 + idxB c)).toNat : Int))
      rw [hk, hgn]
      exact cell_one_new _ _ _ 0 _ rfl)
    exact this
  have hgs : gx.size = 1 := by rw [← hgx]; rfl
  have HOV := Lib.hid hoV
  have HBV := Lib.hid hbV
  have HV := Lib.hid hV
  have HK := Lib.hid hk
  have HC := Lib.hid hc
  have HGX := Lib.hid hgx
  have HZV := Lib.hid hzV
  clear hoV hbV hV hk hc hgx hgn hzV
  go_enter Try.func99, Try.ntmps99
  go_wp2_with fail
  rw [HV.out]
  refine (sIndex_any _ _ HC.out).mono ?_
  rw [HK.out]
  rintro e w2 ⟨rfl, rfl⟩
  by_cases h97 : 97 ≤ c.toNat
  · have hls : letS c = oneT ++ [⟨1, gx⟩] := by unfold letS; rw [if_pos h97, HGX.out]; rfl
    have hnb : ((V.alloc (.cells #[.int .u8 (97 + (k : Int))] 5)).alloc (.cells #[.int .i64 1, .string gx] TI)).heap[V.heap.size + 1]? = some (.cells #[.int .i64 1, .string gx] TI (0, 0)) := by
      have h := heap_alloc_new (V.alloc (.cells #[.int .u8 (97 + (k : Int))] 5)) (.cells #[.int .i64 1, .string gx] TI)
      rw [World.size_alloc] at h
      exact h
    have HNB := Lib.hid hnb
    have HLS := Lib.hid hls
    clear hls hnb
    go_wp2_with (at_builtin; refine wpList_append_lies _ rfl _ _ _ rfl w.heap.size TI i0 _ 2 24 Try.underlying25 hi hz0 hz1 hz2 rfl (by omega) (.slice (some ⟨w.heap.size, 0, none⟩) 1 1) 1 (termsV oneT) rfl ((HOV.out.alloc _).alloc _) ⟨V.heap.size + 1, 0, none⟩ 1 1 [.int .i64 1, .string gx] rfl rfl (World.news_of_block (cs := #[.int .i64 1, .string gx]) (t := TI) (fr := (0, 0)) HNB.out) (by simp [Value.oneCell']) (by omega) (by unfold maxLen; omega) (by omega) (by have := HZV.out; simp; omega) (V.heap.size + 2) (by simp) ?_; intro gg cap1 w7 hown7 hgrow7 hat hlt7)
    have hB7 : Below w.heap.size w w7 := HBV.out.trans ((((Below.refl w.heap.size V).alloc HBV.out.size _).alloc (by have := HBV.out.size; simp; omega) _).grown hgrow7 (by have := HBV.out.size; simp; omega) (fun j e => by simp [Value.ownBlock] at e; omega))
    have HO7 := Lib.hid hown7
    clear hown7 hgrow7 hat hlt7
    go_wp2
    go_ret
    refine ⟨⟨_, rfl, gg, cap1, ?_, ?_⟩, hB7⟩
    · rw [HLS.out]; rfl
    · rw [HLS.out, termsV_append]
      exact HO7.out
  · have hls : letS c = (List.range 5).map (powT c) := by unfold letS; rw [if_neg h97]
    have HLS := Lib.hid hls
    have hbW : Below w.heap.size w (V.alloc (.cells #[.int .u8 (97 + (k : Int))] 5)) := HBV.out.alloc HBV.out.size _
    have hoW := HOV.out.alloc (.cells #[.int .u8 (97 + (k : Int))] 5)
    have HOW : Hid (OwnT w.heap.size (V.alloc (.cells #[.int .u8 (97 + (k : Int))] 5)) (.slice (some ⟨w.heap.size, 0, none⟩) 1 1) ((List.range (0 + 1)).map (powT c))) := Lib.hid hoW
    have HBW := Lib.hid hbW
    clear hls hbW hoW
    go_wp2
    go_loopw [3, 5, 6] (fun v s i wr => ∃ (j : Nat) (z : Int), j ≤ 4 ∧ i = .int .i64 ((j + 1 : Nat) : Int) ∧ s = .int .i64 z ∧ (-1 ≤ z ∧ z ≤ 1) ∧ Hid (z = altZ (j + 1)) ∧ Hid (OwnT w.heap.size wr v ((List.range (j + 1)).map (powT c))) ∧ Below w.heap.size w wr) (fun _ _ i _ => 5 - (intOf i).toNat)
    case atStart => exact ⟨0, -1, by omega, rfl, rfl, by omega, Lib.hid rfl, HOW, HBW.out⟩
    case round =>
      obtain ⟨j, z, hj, rfl, rfl, ⟨hz1', hz2'⟩, HZ, HO, hB⟩ := hrel
      by_cases hlt : j < 4
      · have hdl : decide ((j : Int) + 1 ≤ 4) = true := decide_eq_true (by omega)
        have hle : (j : Int) + 1 ≤ 4 := by omega
        go_wp2_with fail
        refine (many_int gx ((j : Int) + 1) (j + 1) _ (by omega) (by omega) (by omega)).mono ?_
        rintro e w3 ⟨x, rfl, hxs, hx, rfl⟩
        have HX := hx
        have hown := HO.out
        unfold OwnT at hown
        rw [List.length_map, List.length_range] at hown
        have HOW2 := Lib.hid hown
        have hbs := hB.size
        clear hown hx
        go_wp2_with (at_builtin; refine wpList_append_lies _ rfl _ _ _ rfl w.heap.size TI i0 _ 2 24 Try.underlying25 hi hz0 hz1 hz2 rfl (by omega) u3 (j + 1) (termsV ((List.range (j + 1)).map (powT c))) rfl (HOW2.out.alloc _) ⟨wr.heap.size, 0, none⟩ 1 1 [.int .i64 z, .string x] rfl rfl (World.news_of_block (cs := #[.int .i64 z, .string x]) (t := TI) (fr := (0, 0)) (heap_alloc_new wr _)) (by simp [Value.oneCell']) (by omega) (by unfold maxLen; omega) (by omega) (by simp; omega) (wr.heap.size + 1) (by simp) ?_; intro gg cap1 w7 hown7 hgrow7 hat hlt7)
        have hB7 : Below w.heap.size w w7 := hB.trans (((Below.refl w.heap.size wr).alloc hbs _).grown hgrow7 (by simp; omega) (ownsRow_low HOW2.out))
        have HO7 := Lib.hid hown7
        clear hown7 hgrow7 hat hlt7
        go_wp2
        go_roundw
        case rel =>
          refine ⟨j + 1, -z, by omega, by go_num, by go_num, by omega, Lib.hid ?_, Lib.hid ?_, hB7⟩
          · rw [HZ.out]; unfold altZ; split <;> split <;> omega
          · have hp : powT c (j + 1) = ⟨z, x⟩ := by
              unfold powT
              rw [← HZ.out]
              have : bstr (repL (j + 1) (letX c)) = x := bytes_ext (by rw [bstr_toList, HX.out, ← HGX.out]; rfl)
              rw [this]
            unfold OwnT
            rw [List.length_map, List.length_range, List.range_succ, List.map_append, termsV_append, List.map_cons, List.map_nil, hp]
            exact HO7.out
        case measure => simp [intOf]; omega
      · obtain rfl : j = 4 := by omega
        have hown := HO.out
        rcases hown.2 with ⟨_, h0⟩ | ⟨g, cap, cur, rfl, _⟩
        · simp at h0
        · have HOW3 := Lib.hid hown
          clear hown
          go_wp2
          go_ret
          refine ⟨⟨_, rfl, g, cap, ?_, ?_⟩, hB⟩
          · rw [HLS.out]; first | rfl | simp
          · rw [HLS.out]; exact HOW3.out

theorem acc_ser {base : Nat} {w : World} {v : Value} {x : List Tm} {N : Nat} {B : Int} (h : Acc base w v x N B) (hs : SerL x) : ∃ g cap, v = .slice (some ⟨g, 0, none⟩) x.length cap ∧ IsTerms w (some ⟨g, 0, none⟩) x.length x := by
  obtain ⟨g, cap, rfl, h1, h2, h3, h4⟩ := h.own.form
  exact ⟨g, cap, rfl, rfl, by have := hs.1; unfold maxLen; omega, fun _ => ⟨_, rfl, h1⟩, fun t ht => by have := hs.2 t ht; unfold maxLen; omega⟩
theorem own_ser {base : Nat} {w : World} {v : Value} {x : List Tm} (h : OwnTerms base w v x) (hs : SerL x) : ∃ g cap, v = .slice (some ⟨g, 0, none⟩) x.length cap ∧ IsTerms w (some ⟨g, 0, none⟩) x.length x := by
  obtain ⟨g, cap, rfl, h1, h2, h3, h4⟩ := h.form
  exact ⟨g, cap, rfl, rfl, by have := hs.1; unfold maxLen; omega, fun _ => ⟨_, rfl, h1⟩, fun t ht => by have := hs.2 t ht; unfold maxLen; omega⟩
theorem serL_small {x : List Tm} (h : SerL x) : SmallT x := ⟨by have := h.1; unfold maxLen; omega, fun t ht => by have := h.2 t ht; unfold maxLen; omega⟩

set_option maxRecDepth 100000 in
set_option maxHeartbeats 2000000 in
theorem sSeriesOf_no (s : ByteArray) (w : World) (hs : s.size ≤ maxLen) (hb : wordB s.data.toList = false) :
    Calls Try.prog 37 #[.string s] w (STold w false []) := by
  have HW := Lib.hid hb
  clear hb
  go_enter Try.func37, Try.ntmps37
  go_wp2_with fail
  refine (sWordIn_is _ false _ hs HW.out).mono ?_
  rintro e w1 ⟨rfl, hb1⟩
  have HB1 := Lib.hid hb1
  clear hb1
  go_wp2
  go_ret2
  exact ⟨⟨_, rfl, (ownEmpty w1).mono HB1.out.size⟩, HB1.out.alloc HB1.out.size _⟩

set_option maxRecDepth 100000 in
set_option maxHeartbeats 4000000 in
theorem sSeriesOf_yes (s : ByteArray) (w : World) (hs : s.size ≤ maxLen) (hb : wordB s.data.toList = true) :
    Calls Try.prog 37 #[.string s] w (STold w true (serW s.data.toList)) := by
  obtain ⟨hw1, hw2, _⟩ := (wordB_iff _).1 hb
  have hs60 : s.size ≤ 60 := by simpa using hw1
  have HW := Lib.hid hb
  have HL := Lib.hid hw2
  have hok := serW_ok _ hw2
  have HTold : Hid (serB (serW s.data.toList) = true) := Lib.hid (by rw [serB_canon hok.canon]; exact hok.told hw1)
  have HSm := Lib.hid (serL_small (hok.ser hw1))
  clear hb hw1 hw2 hok
  go_enter Try.func37, Try.ntmps37
  go_wp2_with fail
  refine (sWordIn_is _ true _ hs HW.out).mono ?_
  rintro e w1 ⟨rfl, hb1⟩
  have HB1 := Lib.hid hb1
  have hone : OwnTerms w1.heap.size (w1.alloc (.cells #[.int .i64 1, .string { data := #[] }] 54)) (.slice (some ⟨w1.heap.size, 0, none⟩) 1 1) oneT :=
    ⟨w1.heap.size, 1, rfl, ⟨rfl, .inr ⟨_, 1, #[.int .i64 1, .string { data := #[] }], rfl, Nat.le_refl _, heap_alloc_new w1 _, Nat.le_refl _, by decide, rfl, rfl⟩⟩⟩
  have HOne := Lib.hid (hone.mono HB1.out.size)
  clear hb1 hone
  go_wp2
  go_loopw [4, 5] (fun v i wr => ∃ k : Nat, k ≤ s.size ∧ i = .int .i64 k ∧ Hid (OwnTerms w.heap.size wr v (serW (s.data.toList.take k))) ∧ Below w.heap.size w wr) (fun _ i _ => s.size - (intOf i).toNat)
  case atStart => exact ⟨0, Nat.zero_le _, rfl, HOne, HB1.out.alloc HB1.out.size _⟩
  case round =>
    obtain ⟨k, hk, rfl, HA, hB⟩ := hrel
    by_cases hlt : k < s.size
    · have hl : k < s.data.toList.length := by simpa using hlt
      have hlet : letB s[k] = true := letL_get _ HL.out k hl
      have hlk : letL (s.data.toList.take k) = true := letL_of_mem _ _ HL.out (fun _ h => List.mem_of_mem_take h)
      have hok := serW_ok _ hlk
      have hser := hok.ser (by rw [List.length_take]; omega)
      have hsucc : serW (s.data.toList.take (k + 1)) = canonT (pairsS (serW (s.data.toList.take k)) (letS s[k])) := by rw [take_snoc _ k hl, serW_snoc]; rfl
      have hlk1 : letL (s.data.toList.take (k + 1)) = true := letL_of_mem _ _ HL.out (fun _ h => List.mem_of_mem_take h)
      have hser1 := (serW_ok _ hlk1).ser (by rw [List.length_take]; omega)
      obtain ⟨ov, hov⟩ : ∃ x, serW (s.data.toList.take k) = x := ⟨_, rfl⟩
      rw [hov] at hser hsucc HA
      obtain ⟨g, cap, rfl, hI⟩ := own_ser HA.out hser
      obtain ⟨n, hn⟩ : ∃ n, ov.length = n := ⟨_, rfl⟩
      rw [hn] at hI ⊢
      have HI := Lib.hid hI
      have HLet := Lib.hid hlet
      have HSer := Lib.hid hser
      have HSu := Lib.hid hsucc
      have HSL := Lib.hid (letS_ser hlet)
      have hbs := hB.size
      clear hI hlet hlk hok hser hsucc hlk1 hser1 hov hn
      go_wp2_with fail
      refine (l4Letter_any _ _ HLet.out).mono ?_
      rintro e w2 ⟨⟨v2, rfl, ho2⟩, hb2⟩
      obtain ⟨g2, cap2, rfl, hI2⟩ := own_ser ho2 HSL.out
      obtain ⟨m, hm⟩ : ∃ m, (letS s[k]).length = m := ⟨_, rfl⟩
      rw [hm] at hI2 ⊢
      have HI2 := Lib.hid hI2
      have HB2 := Lib.hid hb2
      clear ho2 hI2 hb2 hm
      go_wp2_with fail
      refine (l4Times_any _ _ cap cap2 n m ov (letS s[k]) _ (HI.out.below HB2.out) HI2.out HSer.out HSL.out).mono ?_
      rintro e w3 ⟨⟨v3, rfl, ho3⟩, hb3⟩
      have HO3 := Lib.hid ho3.own
      have hB3 : Below w.heap.size w w3 := (hB.trans (HB2.out.mono hbs)).trans (hb3.mono (Nat.le_trans hbs HB2.out.size))
      have hs23 := HB2.out.size
      clear ho3 hb3
      go_wp2
      go_roundw
      case rel =>
        refine ⟨k + 1, by omega, by go_num, Lib.hid ?_, hB3⟩
        rw [HSu.out]
        exact HO3.out.mono (by omega)
      case measure => simp [intOf]; omega
    · have ht : s.data.toList.take k = s.data.toList := List.take_of_length_le (by simp; omega)
      have ho := HA.out
      rw [ht] at ho
      have HO := Lib.hid ho
      clear ho ht
      go_wp2_with fail
      refine (s4Done_any w.heap.size u4 (serW s.data.toList) true wr HO.out HSm.out hB.size HTold.out).mono ?_
      rintro e w2 ⟨⟨v', rfl, ho⟩, hb2⟩
      have HO2 := Lib.hid ho
      clear ho
      go_wp2
      go_ret2
      exact ⟨⟨_, rfl, HO2.out⟩, hB.trans (hb2.mono hB.size)⟩

theorem serW_tw {s : ByteArray} {b : Bool} (h : wordB s.data.toList = b) : b = true → twS (serW s.data.toList) = true := by
  intro hb
  subst hb
  obtain ⟨h1, h2, _⟩ := (wordB_iff _).1 h
  exact (serW_ok _ h2).told h1
theorem sSeriesOf_any (s : ByteArray) (b : Bool) (w : World) (hs : s.size ≤ maxLen) (hb : wordB s.data.toList = b) :
    Calls Try.prog 37 #[.string s] w (STold w b (serW s.data.toList)) := by
  cases b with
  | false => exact sSeriesOf_no s w hs hb
  | true => exact sSeriesOf_yes s w hs hb

end Go.Proofs.Ytebgcebjlbhjjab

/- The contracts of the model's 'SeriesCoef' and 'SeriesDepth'. -/

namespace Go.Proofs.Ytebgcebjlbhjjab
open Go.RowKit Go.Shelf

theorem coefAt_get : ∀ {ts : List Tm} {t : Tm}, Canon ts → t ∈ ts → coefAt t.s ts = t.c
  | x :: r, t, h, ht => by
    obtain ⟨h1, h2⟩ := List.pairwise_cons.1 h.1
    rw [coefAt]
    rcases List.mem_cons.1 ht with rfl | ht
    · rw [if_pos rfl, coefAt_none fun u hu => (lessW_ne (h1 u hu)).symm]; omega
    · rw [if_neg (lessW_ne (h1 t ht)), coefAt_get ⟨h2, fun u hu => h.2 u (by simp [hu])⟩ ht]; omega
/-- The degree of the first monomial that is not 1. -/
def depthT : List Tm → Nat
  | [] => 0
  | t :: r => if t.s.size = 0 then depthT r else t.s.size
theorem depthT_skip : ∀ (ts : List Tm) (k : Nat), (∀ j (h : j < ts.length), j < k → ts[j].s.size = 0) → depthT ts = depthT (ts.drop k)
  | ts, 0, _ => by simp
  | [], k + 1, _ => by simp
  | t :: r, k + 1, h => by
    rw [depthT, if_pos (show t.s.size = 0 from h 0 (by simp) (by omega)), List.drop_succ_cons]
    exact depthT_skip r k fun j hj hk => by have := h (j + 1) (by simp; omega) (by omega); simpa using this

set_option maxRecDepth 100000 in
set_option maxHeartbeats 4000000 in
theorem sSeriesCoef_any (s m : ByteArray) (b1 b2 : Bool) (z : Int) (b : Bool) (w : World) (hs : s.size ≤ maxLen) (hms : m.size ≤ maxLen) (h1 : wordB s.data.toList = b1) (h2 : monoB m = b2) (hz : cond (b1 && b2) (coefAt m (serW s.data.toList)) 0 = z) (hb : (b1 && b2) = b) :
    Calls Try.prog 46 #[.string s, .string m] w fun e w' => e = .returned (.tuple #[.int .i64 z, .bool b]) ∧ Below w.heap.size w w' := by
  have H2 := Lib.hid h2
  have HZ := Lib.hid hz
  have HB := Lib.hid hb
  have HS := Lib.hid (sSeriesOf_any s b1 w hs h1)
  have H1 := Lib.hid h1
  obtain ⟨ts, hts⟩ : ∃ ts, cond b1 (serW s.data.toList) [] = ts := ⟨_, rfl⟩
  obtain ⟨hsm, hlen⟩ := told_smallS (serW_tw h1) hts
  obtain ⟨n, hn⟩ : ∃ n, ts.length = n := ⟨_, rfl⟩
  have HTS := Lib.hid hts
  have HN := Lib.hid hn
  have HSM := Lib.hid hsm
  rw [hn] at hlen
  clear h1 h2 hz hb hts hsm hn
  go_enter Try.func46, Try.ntmps46
  go_wp2_with fail
  refine HS.out.mono ?_
  rintro e w1 ⟨⟨v1, rfl, ho1⟩, hb1⟩
  cases b1 with
  | false =>
    obtain rfl : b = false := HB.out.symm
    obtain rfl : z = 0 := HZ.out.symm
    clear ho1
    go_wp2
    go_ret2
    exact ⟨rfl, hb1⟩
  | true =>
    have ho1 : OwnTerms w.heap.size w1 v1 (serW s.data.toList) := ho1
    have hts : serW s.data.toList = ts := HTS.out
    rw [hts] at ho1
    obtain ⟨a1, c1, rfl, hI1⟩ := ho1.own.isTerms HSM.out
    rw [HN.out] at hI1 ⊢
    have HI := Lib.hid hI1
    have HCa : Hid (Canon ts) := Lib.hid (by
      obtain ⟨p1, p2, _⟩ := (wordB_iff _).1 H1.out
      rw [← hts]; exact (serW_ok _ p2).canon)
    have HT := Lib.hid hts
    have HB1 := Lib.hid hb1
    clear ho1 hI1 hts hb1
    go_wp2_with fail
    refine (sMono_is m b2 _ hms H2.out).mono ?_
    rintro e w2 ⟨rfl, hb2⟩
    have HB2 := Lib.hid (HB1.out.trans (hb2.mono HB1.out.size))
    have HI2 := Lib.hid (HI.out.below hb2)
    clear hb2
    cases b2 with
    | false =>
      obtain rfl : b = false := HB.out.symm
      obtain rfl : z = 0 := HZ.out.symm
      go_wp2
      go_ret2
      exact ⟨rfl, HB2.out⟩
    | true =>
      obtain rfl : b = true := HB.out.symm
      have HZ2 : Hid (coefAt m ts = z) := Lib.hid (by rw [← HT.out]; exact HZ.out)
      go_wp2
      go_loopw [8] (fun i wr => ∃ k : Nat, k ≤ n ∧ i = .int .i64 k ∧ Hid (∀ j (h : j < ts.length), j < k → ts[j].s ≠ m) ∧ w2 = wr) (fun i _ => n - (intOf i).toNat)
      case atStart => exact ⟨0, Nat.zero_le _, rfl, Lib.hid (fun j _ h => absurd h (Nat.not_lt_zero _)), rfl⟩
      case round =>
        obtain ⟨k, hk, rfl, HJ, rfl⟩ := hrel
        by_cases hlt : k < n
        · have hkx : k < ts.length := by rw [HN.out]; exact hlt
          obtain ⟨x, rfl, hx⟩ := HI2.out.at_ (by omega)
          obtain ⟨t, ht⟩ : ∃ t, ts[k] = t := ⟨_, rfl⟩
          have hc := hx.2 k hkx
          have hbx := hx.1
          rw [ht, addr_next] at hc
          obtain ⟨c0, d1⟩ := hc
          by_cases hm : t.s = m
          · have hq : (t.s.toList == m.toList) = true := by rw [bytes_beq, hm]; simp
            have hret : t.c = z := by rw [← HZ2.out, ← hm]; exact (coefAt_get HCa.out (by rw [← ht]; exact List.getElem_mem hkx)).symm
            subst hret
            clear hm ht hx
            go_wp2
            go_ret2
            exact ⟨rfl, HB2.out⟩
          · have hq : (t.s.toList == m.toList) = false := by rw [bytes_beq]; exact decide_eq_false fun e => hm (bytes_ext e)
            have HNe := Lib.hid hm
            have HT2 := Lib.hid ht
            clear hm ht hx
            go_wp2
            go_roundw
            case rel =>
              refine ⟨k + 1, by omega, by go_num, Lib.hid fun j hj hjk => ?_, trivial⟩
              by_cases e : j = k
              · subst e; rw [HT2.out]; exact HNe.out
              · exact HJ.out j hj (by omega)
            case measure => simp [intOf]; omega
        · obtain rfl : k = n := by omega
          have hz0 : z = 0 := by
            rw [← HZ2.out]
            refine coefAt_none fun t ht => ?_
            obtain ⟨j, hj, rfl⟩ := List.getElem_of_mem ht
            exact HJ.out j hj (by rw [← HN.out]; exact hj)
          subst hz0
          go_wp2
          go_ret2
          exact ⟨rfl, HB2.out⟩

set_option maxRecDepth 100000 in
set_option maxHeartbeats 4000000 in
theorem sSeriesDepth_any (s : ByteArray) (b : Bool) (z : Nat) (w : World) (hs : s.size ≤ maxLen) (h1 : wordB s.data.toList = b) (hz : cond b (depthT (serW s.data.toList)) 0 = z) :
    Calls Try.prog 52 #[.string s] w fun e w' => e = .returned (.tuple #[.int .i64 z, .bool b]) ∧ Below w.heap.size w w' := by
  have HZ := Lib.hid hz
  have HS := Lib.hid (sSeriesOf_any s b w hs h1)
  obtain ⟨ts, hts⟩ : ∃ ts, cond b (serW s.data.toList) [] = ts := ⟨_, rfl⟩
  obtain ⟨hsm, hlen⟩ := told_smallS (serW_tw h1) hts
  obtain ⟨n, hn⟩ : ∃ n, ts.length = n := ⟨_, rfl⟩
  have HTS := Lib.hid hts
  have HN := Lib.hid hn
  have HSM := Lib.hid hsm
  rw [hn] at hlen
  clear h1 hz hts hsm hn
  go_enter Try.func52, Try.ntmps52
  go_wp2_with fail
  refine HS.out.mono ?_
  rintro e w1 ⟨⟨v1, rfl, ho1⟩, hb1⟩
  cases b with
  | false =>
    obtain rfl : z = 0 := HZ.out.symm
    clear ho1
    go_wp2
    go_ret2
    exact ⟨rfl, hb1⟩
  | true =>
    have ho1 : OwnTerms w.heap.size w1 v1 (serW s.data.toList) := ho1
    have hts : serW s.data.toList = ts := HTS.out
    rw [hts] at ho1
    obtain ⟨a1, c1, rfl, hI1⟩ := ho1.own.isTerms HSM.out
    rw [HN.out] at hI1 ⊢
    have HI := Lib.hid hI1
    have HZ2 : Hid (depthT ts = z) := Lib.hid (by rw [← hts]; exact HZ.out)
    have HB1 := Lib.hid hb1
    clear ho1 hI1 hts hb1
    go_wp2
    go_loopw [6] (fun i wr => ∃ k : Nat, k ≤ n ∧ i = .int .i64 k ∧ Hid (∀ j (h : j < ts.length), j < k → ts[j].s.size = 0) ∧ w1 = wr) (fun i _ => n - (intOf i).toNat)
    case atStart => exact ⟨0, Nat.zero_le _, rfl, Lib.hid (fun j _ h => absurd h (Nat.not_lt_zero _)), rfl⟩
    case round =>
      obtain ⟨k, hk, rfl, HJ, rfl⟩ := hrel
      by_cases hlt : k < n
      · have hkx : k < ts.length := by rw [HN.out]; exact hlt
        obtain ⟨x, rfl, hx⟩ := HI.out.at_ (by omega)
        obtain ⟨t, ht⟩ : ∃ t, ts[k] = t := ⟨_, rfl⟩
        have hc := hx.2 k hkx
        have hbx := hx.1
        rw [ht, addr_next] at hc
        obtain ⟨c0, d1⟩ := hc
        have hdr : depthT ts = if t.s.size = 0 then depthT (ts.drop (k + 1)) else t.s.size := by
          rw [depthT_skip ts k HJ.out, List.drop_eq_getElem_cons hkx, ht, depthT]
        have hsm : t.s.size ≤ maxLen := by rw [← ht]; exact (HSM.out.2 _ (List.getElem_mem hkx)).1
        by_cases hm : t.s.size = 0
        · have hq : t.s.toList.isEmpty = true := by
            have h0 : t.s.data.toList = [] := List.eq_nil_of_length_eq_zero (by simpa using hm)
            rw [ByteArray.toList_eq, h0]; rfl
          have HT2 := Lib.hid ht
          have HM := Lib.hid hm
          clear ht hx hdr hm
          go_wp2
          go_roundw
          case rel =>
            refine ⟨k + 1, by omega, by go_num, Lib.hid fun j hj hjk => ?_, trivial⟩
            by_cases e : j = k
            · subst e; rw [HT2.out]; exact HM.out
            · exact HJ.out j hj (by omega)
          case measure => simp [intOf]; omega
        · have hq : t.s.toList.isEmpty = false := by
            rw [ByteArray.toList_eq]
            cases h : t.s.data.toList with
            | nil => exfalso; apply hm; rw [← show t.s.data.toList.length = t.s.size by simp, h]; rfl
            | cons _ _ => rfl
          rw [if_neg hm] at hdr
          have hret : t.s.size = z := by rw [← HZ2.out, hdr]
          subst hret
          clear ht hx hdr hm
          go_wp2
          go_ret2
          exact ⟨rfl, HB1.out⟩
      · obtain rfl : k = n := by omega
        have hz0 : z = 0 := by
          rw [← HZ2.out, depthT_skip ts k HJ.out, List.drop_of_length_le (by rw [HN.out]; exact Nat.le_refl _)]; rfl
        subst hz0
        go_wp2
        go_ret2
        exact ⟨rfl, HB1.out⟩

end Go.Proofs.Ytebgcebjlbhjjab

/- Sums over products in whatever order; how great they get, how many monomials there are. -/

namespace Go.Proofs.Ytebgcebjlbhjjab
open Go.RowKit

/-- The products of all entries of X with one; with all of Y, in Y's order. -/
def rowQ (u : Tm) (X : List Tm) : List Tm := (X.map fun t => pairS t u).filter short
def pairsQ (Y X : List Tm) : List Tm := Y.flatMap fun u => rowQ u X
theorem rowQ_snoc (u : Tm) (X : List Tm) (t : Tm) : rowQ u (X ++ [t]) = rowQ u X ++ (if (t.s ++ u.s).size ≤ 4 then [⟨t.c * u.c, t.s ++ u.s⟩] else []) := by
  unfold rowQ
  rw [List.map_append, List.filter_append, List.map_cons, List.map_nil, List.filter_cons, List.filter_nil]
  congr 1
  by_cases hs : (t.s ++ u.s).size ≤ 4
  · rw [if_pos (show short (pairS t u) = true from decide_eq_true hs), if_pos hs]; rfl
  · rw [if_neg (show ¬ short (pairS t u) = true by unfold short pairS; simpa using hs), if_neg hs]
theorem rowQ_perm (u : Tm) {X X' : List Tm} (h : X.Perm X') : (rowQ u X).Perm (rowQ u X') := (h.map _).filter _
theorem pairsQ_snoc (Y X : List Tm) (u : Tm) : pairsQ (Y ++ [u]) X = pairsQ Y X ++ rowQ u X := by unfold pairsQ; rw [List.flatMap_append]; simp
theorem rowQ_cons (u t : Tm) (X : List Tm) : rowQ u (t :: X) = [pairS t u].filter short ++ rowQ u X := by
  unfold rowQ
  rw [List.map_cons, List.filter_cons, List.filter_cons, List.filter_nil]
  split <;> simp
theorem rowS_cons (t u : Tm) (Y : List Tm) : rowS t (u :: Y) = [pairS t u].filter short ++ rowS t Y := by
  unfold rowS
  rw [List.map_cons, List.filter_cons, List.filter_cons, List.filter_nil]
  split <;> simp
theorem pairsQ_cons (k : ByteArray) (t : Tm) (X : List Tm) : ∀ Y, coefAt k (pairsQ Y (t :: X)) = coefAt k (rowS t Y) + coefAt k (pairsQ Y X)
  | [] => by simp [pairsQ, rowS, coefAt]
  | u :: r => by
    have ih := pairsQ_cons k t X r
    have e1 : ∀ Z, pairsQ (u :: r) Z = rowQ u Z ++ pairsQ r Z := fun Z => by unfold pairsQ; rw [List.flatMap_cons]
    rw [e1, e1, rowQ_cons, rowS_cons, coefAt_append, coefAt_append, coefAt_append, coefAt_append, ih]
    omega
theorem pairsQ_swap (k : ByteArray) (Y : List Tm) : ∀ X, coefAt k (pairsQ Y X) = coefAt k (pairsS X Y)
  | [] => by
    have : pairsQ Y [] = [] := by
      unfold pairsQ
      rw [List.flatMap_eq_nil_iff]
      intro u _; rfl
    rw [this]; rfl
  | t :: X => by
    have e : pairsS (t :: X) Y = rowS t Y ++ pairsS X Y := by unfold pairsS rowS; rw [List.flatMap_cons]
    rw [pairsQ_cons, e, coefAt_append, pairsQ_swap k Y X]
theorem pairsQ_perm {Y Y' : List Tm} (X : List Tm) (h : Y.Perm Y') : (pairsQ Y X).Perm (pairsQ Y' X) := h.flatMap_right _
theorem rowQ_len (u : Tm) (X : List Tm) : (rowQ u X).length ≤ X.length := by
  unfold rowQ
  exact Nat.le_trans (List.length_filter_le _ _) (by rw [List.length_map]; exact Nat.le_refl _)
theorem pairsQ_len (X : List Tm) : ∀ Y, (pairsQ Y X).length ≤ Y.length * X.length
  | [] => by simp [pairsQ]
  | u :: r => by
    have ih := pairsQ_len X r
    have h1 := rowQ_len u X
    have e : pairsQ (u :: r) X = rowQ u X ++ pairsQ r X := by unfold pairsQ; rw [List.flatMap_cons]
    rw [e, List.length_append, List.length_cons, Nat.succ_mul]
    omega
/-- Coefficients of at most M. -/
def BndT (M : Int) (ts : List Tm) : Prop := ∀ t ∈ ts, -M ≤ t.c ∧ t.c ≤ M
def MonoT (ts : List Tm) : Prop := ∀ t ∈ ts, monoB t.s = true
theorem BndT.perm {M : Int} {a b : List Tm} (h : BndT M a) (hp : a.Perm b) : BndT M b := fun t ht => h t (hp.mem_iff.2 ht)
theorem MonoT.perm {a b : List Tm} (h : MonoT a) (hp : a.Perm b) : MonoT b := fun t ht => h t (hp.mem_iff.2 ht)
theorem bndQ {X : List Tm} {u : Tm} (hX : BndT 1000000 X) (hu : -1000000 ≤ u.c ∧ u.c ≤ 1000000) : BndT 1000000000000 (rowQ u X) := fun t ht => by
  obtain ⟨v, hv, rfl⟩ := List.mem_map.1 (List.mem_filter.1 ht).1
  exact mul_bnd (hX v hv) hu
theorem bndQQ {X Y : List Tm} (hX : BndT 1000000 X) (hY : BndT 1000000 Y) : BndT 1000000000000 (pairsQ Y X) := fun t ht => by
  obtain ⟨u, hu, ht⟩ := List.mem_flatMap.1 ht
  exact bndQ hX (hY u hu) t ht
theorem coef_bnd {M : Int} (hM : 0 ≤ M) (k : ByteArray) : ∀ {ts : List Tm}, BndT M ts → -(M * ts.length) ≤ coefAt k ts ∧ coefAt k ts ≤ M * ts.length
  | [], _ => by simp [coefAt]
  | t :: r, h => by
    have ih := coef_bnd hM k (fun u hu => h u (List.mem_cons_of_mem _ hu))
    have ht := h t (by simp)
    have ec : coefAt k (t :: r) = (if t.s = k then t.c else 0) + coefAt k r := rfl
    have em : M * ((t :: r).length : Int) = M * (r.length : Int) + M := by rw [List.length_cons]; push_cast; rw [Int.mul_add, Int.mul_one]
    rw [ec, em]
    split <;> omega
theorem apart_len341 {ts : List Tm} (ha : Apart ts) (h : MonoT ts) : ts.length ≤ 341 := by
  have := nodup_len (ts.map fun t => t.s.data.toList) monosAll (by
    rw [List.nodup_iff_pairwise_ne, List.pairwise_map]
    exact ha.imp fun hl e => hl (bytes_ext e)) (fun l hl => by
    obtain ⟨t, ht, rfl⟩ := List.mem_map.1 hl
    exact mono_mem (h t ht))
  rwa [List.length_map, monosAll_len] at this
theorem mono_put {ts : List Tm} {s : ByteArray} {v : Int} (h : MonoT ts) (hs : monoB s = true) : MonoT (putT ts s v) := fun t ht => by
  rcases mem_put ht with rfl | ht
  · exact hs
  · exact h t ht
/-- One product more: what the map reads as, behind it. -/
theorem put_add {ts L : List Tm} (s : ByteArray) (d : Int) (h : ∀ k, coefAt k ts = coefAt k L) (k : ByteArray) : coefAt k (putT ts s (coefAt s ts + d)) = coefAt k (L ++ [⟨d, s⟩]) := by
  have ec : coefAt k [(⟨d, s⟩ : Tm)] = (if s = k then d else 0) + 0 := rfl
  rw [coefAt_put, coefAt_append, ec, Int.add_zero]
  by_cases hk : k = s
  · subst hk; simp [h]
  · simp [hk, Ne.symm hk, h]
theorem canon_same {ts us : List Tm} (h : ∀ k, coefAt k ts = coefAt k us) : canonT ts = canonT us := canonT_unique (canon_of ts) fun s => by rw [(canonT_spec ts).2, h]
theorem apart_bnd {M : Int} {ts : List Tm} (ha : Apart ts) (h : ∀ t ∈ canonT ts, -M ≤ t.c ∧ t.c ≤ M) (hM : 0 ≤ M) : BndT M ts := fun t ht => by
  by_cases h0 : t.c = 0
  · rw [h0]; omega
  · have hc : coefAt t.s (canonT ts) = t.c := by rw [(canonT_spec ts).2, apart_unique ha ht]
    by_cases hm : ∃ u ∈ canonT ts, u.s = t.s
    · obtain ⟨u, hu, e⟩ := hm
      rw [← e, coefAt_get (canon_of ts) hu] at hc
      rw [← hc]; exact h u hu
    · rw [coefAt_none fun u hu e => hm ⟨u, hu, e⟩] at hc
      exact absurd hc.symm h0

end Go.Proofs.Ytebgcebjlbhjjab

/- The coefficient of 1 in products and in the series of a word; the depth out of the second term. -/

namespace Go.Proofs.Ytebgcebjlbhjjab
open Go.RowKit

abbrev noS : ByteArray := { data := #[] }
theorem no_iff {s : ByteArray} : s = noS ↔ s.size = 0 := ⟨fun h => by rw [h]; rfl, fun h => bytes_ext (by rw [List.eq_nil_of_length_eq_zero (show s.data.toList.length = 0 by simpa using h)])⟩
theorem no_row (t : Tm) : ∀ y : List Tm, coefAt noS (rowS t y) = if t.s = noS then t.c * coefAt noS y else 0
  | [] => by simp [rowS, coefAt]
  | u :: r => by
    have e1 : coefAt noS ([pairS t u].filter short) = if t.s = noS ∧ u.s = noS then t.c * u.c else 0 := by
      have hz : (pairS t u).s = noS ↔ t.s = noS ∧ u.s = noS := by
        rw [no_iff, no_iff, no_iff]; unfold pairS; rw [append_size]; omega
      rw [List.filter_cons, List.filter_nil]
      by_cases hs : t.s = noS ∧ u.s = noS
      · rw [if_pos hs, if_pos (show short (pairS t u) = true from decide_eq_true (by rw [no_iff.1 (hz.2 hs)]; omega)), coefAt, if_pos (hz.2 hs)]; simp [coefAt, pairS]
      · rw [if_neg hs]
        split
        · rw [coefAt, if_neg (fun h => hs (hz.1 h))]; rfl
        · rfl
    rw [rowS_cons, coefAt_append, e1, no_row t r, coefAt]
    by_cases ht : t.s = noS <;> by_cases hu : u.s = noS <;> simp [ht, hu, Int.mul_add]
theorem no_pairs : ∀ x y : List Tm, coefAt noS (pairsS x y) = coefAt noS x * coefAt noS y
  | [], y => by simp [pairsS, coefAt]
  | t :: r, y => by
    have e : pairsS (t :: r) y = rowS t y ++ pairsS r y := by unfold pairsS rowS; rw [List.flatMap_cons]
    rw [e, coefAt_append, no_row, no_pairs r y, coefAt, Int.add_mul]
    by_cases ht : t.s = noS <;> simp [ht]
theorem letS_no_facts : ∀ n : Fin 8, coefAt noS (letS (UInt8.ofNat (if n.val < 4 then 97 + n.val else 61 + n.val))) = 1 := by decide +kernel
theorem letS_no {c : UInt8} (hc : letB c = true) : coefAt noS (letS c) = 1 := let_cases (P := fun c => coefAt noS (letS c) = 1) letS_no_facts hc
theorem serW_no (l : List UInt8) : letL l = true → coefAt noS (serW l) = 1 := by
  generalize hn : l.length = n
  induction n generalizing l with
  | zero => intro _; rw [List.length_eq_zero_iff.1 hn]; decide
  | succ n ih =>
    intro hl
    obtain ⟨p, c, rfl⟩ := last_split l (by omega)
    rw [letL_append, Bool.and_eq_true] at hl
    have hp : p.length = n := by rw [List.length_append] at hn; simp at hn; exact hn
    rw [serW_snoc, (canonT_spec _).2, no_pairs, ih p hp hl.1, letS_no (by have := hl.2; simp [letL] at this; exact this)]; rfl
theorem less_no {a : ByteArray} : lessW a noS = false := by
  by_cases h : a = noS
  · rw [h]; exact lessW_irrefl _
  · have h0 : ¬ a.size = 0 := fun e => h (no_iff.2 e)
    unfold lessW
    rw [if_neg (show ¬ a.size = noS.size from h0)]
    exact decide_eq_false (by show ¬ a.size < 0; omega)
theorem canon_first {ts : List Tm} (hc : Canon ts) (h1 : coefAt noS ts = 1) : ∃ u r, ts = u :: r ∧ u.s = noS ∧ u.c = 1 ∧ ∀ t ∈ r, t.s.size ≠ 0 := by
  cases ts with
  | nil => simp [coefAt] at h1
  | cons u r =>
    obtain ⟨h2, h3⟩ := List.pairwise_cons.1 hc.1
    have hr : ∀ t ∈ r, t.s.size ≠ 0 := fun t ht h0 => by
      have := h2 t ht
      rw [no_iff.2 h0, less_no] at this
      cases this
    have hu : u.s = noS := by
      by_cases h : u.s = noS
      · exact h
      · rw [coefAt_none (fun t ht e => by
          rcases List.mem_cons.1 ht with rfl | ht
          · exact h e
          · exact hr t ht (no_iff.1 e))] at h1
        cases h1
    refine ⟨u, r, rfl, hu, ?_, hr⟩
    rw [coefAt, if_pos hu, coefAt_none (fun t ht e => hr t ht (no_iff.1 e))] at h1
    omega
theorem depth_one {ts : List Tm} (hc : Canon ts) (h1 : coefAt noS ts = 1) (hl : ts.length = 1) : depthT ts = 0 := by
  obtain ⟨u, r, rfl, hu, _, _⟩ := canon_first hc h1
  have : r = [] := List.eq_nil_of_length_eq_zero (by simpa using hl)
  subst this
  rw [depthT, if_pos (no_iff.1 hu)]; rfl
theorem depth_two {ts : List Tm} (hc : Canon ts) (h1 : coefAt noS ts = 1) (hl : 1 < ts.length) : depthT ts = ts[1].s.size := by
  obtain ⟨u, r, rfl, hu, _, hr⟩ := canon_first hc h1
  cases r with
  | nil => simp at hl
  | cons t r =>
    rw [depthT, if_pos (no_iff.1 hu), depthT, if_neg (hr t (by simp))]
    rfl
theorem first_pos {ts : List Tm} (hc : Canon ts) (h1 : coefAt noS ts = 1) : 0 < ts.length := by
  obtain ⟨u, r, rfl, _⟩ := canon_first hc h1
  simp

end Go.Proofs.Ytebgcebjlbhjjab

/- Products of series depend on the coefficients alone. -/

namespace Go.Proofs.Ytebgcebjlbhjjab
open Go.RowKit

/-- The sum of coefficients times what a function says of their texts. -/
def linT (f : ByteArray → Int) : List Tm → Int
  | [] => 0
  | t :: r => t.c * f t.s + linT f r
theorem linT_append (f : ByteArray → Int) (a b : List Tm) : linT f (a ++ b) = linT f a + linT f b := by
  induction a with
  | nil => simp [linT]
  | cons t r ih => rw [List.cons_append, linT, linT, ih]; omega
theorem linT_nz (f : ByteArray → Int) (t : Tm) : linT f (nz t) = t.c * f t.s := by
  unfold nz
  by_cases h : t.c = 0
  · rw [if_pos h, h]; simp [linT]
  · rw [if_neg h]; simp [linT]
theorem linT_add (f : ByteArray → Int) (t : Tm) : ∀ ts, linT f (addT ts t) = linT f ts + t.c * f t.s
  | [] => by rw [addT, linT_nz, linT]; omega
  | x :: r => by
    rw [addT]
    by_cases h : lessW x.s t.s = true
    · rw [if_pos h, linT, linT, linT_add f t r]; omega
    · rw [if_neg h]
      by_cases h2 : x.s = t.s
      · rw [if_pos h2, linT_append, linT_nz, linT, h2]
        show (t.c + x.c) * f t.s + linT f r = x.c * f t.s + linT f r + t.c * f t.s
        rw [Int.add_mul]; omega
      · rw [if_neg h2, linT_append, linT_nz, linT]; omega
theorem linT_fold (f : ByteArray → Int) : ∀ ts acc, linT f (ts.foldl addT acc) = linT f acc + linT f ts
  | [], acc => by simp [linT]
  | t :: r, acc => by rw [List.foldl_cons, linT_fold f r, linT_add, linT]; omega
theorem linT_canon (f : ByteArray → Int) (ts : List Tm) : linT f (canonT ts) = linT f ts := by unfold canonT; rw [linT_fold]; simp [linT]
theorem linT_same {x y : List Tm} (h : ∀ q, coefAt q x = coefAt q y) (f : ByteArray → Int) : linT f x = linT f y := by rw [← linT_canon f x, ← linT_canon f y, canon_same h]
theorem row_one (q : ByteArray) (t : Tm) : ∀ y, coefAt q (rowS t y) = t.c * coefAt q (rowS ⟨1, t.s⟩ y)
  | [] => by simp [rowS, coefAt]
  | u :: r => by
    rw [rowS_cons, rowS_cons, coefAt_append, coefAt_append, row_one q t r, Int.mul_add]
    congr 1
    rw [List.filter_cons, List.filter_nil, List.filter_cons, List.filter_nil]
    by_cases hs : (t.s ++ u.s).size ≤ 4
    · rw [if_pos (show short (pairS t u) = true from decide_eq_true hs), if_pos (show short (pairS ⟨1, t.s⟩ u) = true from decide_eq_true hs), coefAt, coefAt, coefAt]
      show (if t.s ++ u.s = q then t.c * u.c else 0) + 0 = t.c * ((if t.s ++ u.s = q then 1 * u.c else 0) + 0)
      split <;> simp
    · rw [if_neg (show ¬ short (pairS t u) = true by unfold short pairS; simpa using hs), if_neg (show ¬ short (pairS ⟨1, t.s⟩ u) = true by unfold short pairS; simpa using hs)]
      simp [coefAt]
theorem row_lin (q : ByteArray) (t : Tm) : ∀ y, coefAt q (rowS t y) = linT (fun s => if (t.s ++ s).size ≤ 4 ∧ t.s ++ s = q then t.c else 0) y
  | [] => by simp [rowS, coefAt, linT]
  | u :: r => by
    rw [rowS_cons, coefAt_append, row_lin q t r, linT]
    congr 1
    rw [List.filter_cons, List.filter_nil]
    by_cases hs : (t.s ++ u.s).size ≤ 4
    · rw [if_pos (show short (pairS t u) = true from decide_eq_true hs), coefAt, coefAt]
      show (if t.s ++ u.s = q then t.c * u.c else 0) + 0 = u.c * (if (t.s ++ u.s).size ≤ 4 ∧ t.s ++ u.s = q then t.c else 0)
      by_cases hq : t.s ++ u.s = q
      · rw [if_pos hq, if_pos ⟨hs, hq⟩, Int.mul_comm]; omega
      · rw [if_neg hq, if_neg fun h => hq h.2]; simp
    · rw [if_neg (show ¬ short (pairS t u) = true by unfold short pairS; simpa using hs), if_neg fun h => hs h.1]
      simp [coefAt]
theorem pairs_lin (q : ByteArray) (y : List Tm) : ∀ x, coefAt q (pairsS x y) = linT (fun s => coefAt q (rowS ⟨1, s⟩ y)) x
  | [] => rfl
  | t :: r => by
    have e : pairsS (t :: r) y = rowS t y ++ pairsS r y := by unfold pairsS rowS; rw [List.flatMap_cons]
    rw [e, coefAt_append, row_one, pairs_lin q y r, linT]
theorem pairs_same1 {x x' : List Tm} (h : ∀ q, coefAt q x = coefAt q x') (y : List Tm) (q : ByteArray) : coefAt q (pairsS x y) = coefAt q (pairsS x' y) := by
  rw [pairs_lin, pairs_lin]; exact linT_same h _
theorem pairs_same2 {y y' : List Tm} (h : ∀ q, coefAt q y = coefAt q y') (q : ByteArray) : ∀ x, coefAt q (pairsS x y) = coefAt q (pairsS x y')
  | [] => rfl
  | t :: r => by
    have e : ∀ z, pairsS (t :: r) z = rowS t z ++ pairsS r z := fun z => by unfold pairsS rowS; rw [List.flatMap_cons]
    rw [e, e, coefAt_append, coefAt_append, pairs_same2 h q r, row_lin, row_lin, linT_same h]
theorem canon_id {ts : List Tm} (h : Canon ts) : canonT ts = ts := (canonT_unique h fun _ => rfl).symm

end Go.Proofs.Ytebgcebjlbhjjab

/- The contracts of the model's and of the program's 'SumPlain'. -/

namespace Go.Proofs.Ytebgcebjlbhjjab
open Go.RowKit Go.Shelf

/-- The sum of all coefficients. -/
def plainZ (ts : List Tm) : Int := (ts.map Tm.c).sum
theorem plainZ_succ (ts : List Tm) (k : Nat) (h : k < ts.length) : plainZ (ts.take (k + 1)) = plainZ (ts.take k) + ts[k].c := by
  unfold plainZ; rw [List.take_succ_eq_append_getElem h, List.map_append, List.sum_append]; simp
theorem sumB_coef {ts : List Tm} (h : sumB ts = true) : ts.length ≤ 300 ∧ ∀ j (hj : j < ts.length), -1000000 ≤ ts[j].c ∧ ts[j].c ≤ 1000000 := by
  unfold sumB allGood at h
  simp only [Bool.and_eq_true, List.all_eq_true, List.mem_range, decide_eq_true_eq] at h
  refine ⟨h.2, fun j hj => ?_⟩
  have := h.1 j hj
  unfold goodAt inR at this
  rw [List.getD_eq_getElem?_getD, List.getElem?_eq_getElem hj] at this
  simp at this
  exact this.1.1.2
theorem ret_plain {z z' : Int} (h : z' = z) : Ending.returned (.tuple #[.int .i64 z, .bool true]) = .returned (.tuple #[.int .i64 z', .bool true]) := by rw [h]
def plainV (b : Bool) (z : Int) : Value := if b then .tuple #[.int .i64 z, .bool true] else .tuple #[.int .i64 0, .bool false]

set_option maxRecDepth 100000 in
set_option maxHeartbeats 1000000 in
theorem sSumPlain_yes (a : Option Addr) (cap n : Nat) (ts : List Tm) (w : World) (hs : IsTerms w a n ts) (hb : sumB ts = true) :
    Calls Try.prog 84 #[.slice a n cap] w fun e w' => e = .returned (.tuple #[.int .i64 (plainZ ts), .bool true]) ∧ Below w.heap.size w w' := by
  obtain ⟨h300, hcf⟩ := sumB_coef hb
  have hn : n ≤ 300 := by rw [← hs.len]; exact h300
  have HN := Lib.hid hs.len
  have HS := Lib.hid hs
  have HB := Lib.hid hb
  have HC := Lib.hid hcf
  clear hs hb hcf h300
  go_enter Try.func84, Try.ntmps84
  go_wp2_with fail
  refine (sSumIn_any a cap n ts _ HS.out).mono ?_
  rintro e w1 ⟨rfl, hb1⟩
  have hbb := HB.out
  rw [hbb]
  clear hbb
  go_wp2
  go_loopw [4, 5] (fun q i wr => ∃ (k : Nat) (z : Int), k ≤ n ∧ i = .int .i64 k ∧ q = .int .i64 z ∧ -1000000 * (k : Int) ≤ z ∧ z ≤ 1000000 * (k : Int) ∧ Hid (z = plainZ (ts.take k)) ∧ Below w.heap.size w wr) (fun _ i _ => n - (intOf i).toNat)
  case atStart => exact ⟨0, 0, Nat.zero_le _, rfl, rfl, by omega, by omega, Lib.hid rfl, hb1⟩
  case round =>
    obtain ⟨k, z, hk, rfl, rfl, hz1, hz2, HZ, hB⟩ := hrel
    by_cases hlt : k < n
    · have hkz : k < ts.length := by rw [HN.out]; exact hlt
      obtain ⟨x, rfl, hx⟩ := HS.out.at_ (by omega)
      obtain ⟨t, ht⟩ : ∃ t, ts[k] = t := ⟨_, rfl⟩
      have hcc := HC.out k hkz
      rw [ht] at hcc
      obtain ⟨hc1, hc2⟩ := hcc
      have hc := (hx.below hB).2 k hkz
      rw [ht, addr_next] at hc
      obtain ⟨c0, c1⟩ := hc
      have HT := Lib.hid ht
      clear ht hx
      go_wp2
      go_roundw
      case rel => exact ⟨k + 1, _, by omega, by go_num, rfl, by omega, by omega, Lib.hid (by rw [plainZ_succ ts k hkz, HT.out, HZ.out]), by first | exact hB | exact hB.alloc hB.size _⟩
      case measure => simp [intOf]; omega
    · obtain rfl : k = n := by omega
      have hz : plainZ ts = z := by rw [HZ.out, List.take_of_length_le (by rw [HN.out]; exact Nat.le_refl _)]
      have HZ2 := Lib.hid hz
      clear hz
      go_wp2
      go_ret2
      exact ⟨ret_plain HZ2.out, hB⟩

theorem sSumPlain_no (a : Option Addr) (cap n : Nat) (ts : List Tm) (w : World) (hs : IsTerms w a n ts) (hb : sumB ts = false) :
    Calls Try.prog 84 #[.slice a n cap] w fun e w' => e = .returned (.tuple #[.int .i64 0, .bool false]) ∧ Below w.heap.size w w' := by
  have HS := Lib.hid hs
  have HB := Lib.hid hb
  clear hs hb
  go_enter Try.func84, Try.ntmps84
  go_wp2_with fail
  refine (sSumIn_any a cap n ts _ HS.out).mono ?_
  rintro e w1 ⟨rfl, hb1⟩
  have hbb := HB.out
  rw [hbb]
  clear hbb
  go_wp2
  go_ret2
  exact ⟨rfl, hb1⟩

theorem sSumPlain_is (a : Option Addr) (cap n : Nat) (ts : List Tm) (b : Bool) (z : Int) (w : World) (hs : IsTerms w a n ts) (h : plainV (sumB ts) (plainZ ts) = .tuple #[.int .i64 z, .bool b]) :
    Calls Try.prog 84 #[.slice a n cap] w fun e w' => e = .returned (.tuple #[.int .i64 z, .bool b]) ∧ Below w.heap.size w w' := by
  rw [← h]
  cases hb : sumB ts with
  | true => exact sSumPlain_yes a cap n ts w hs hb
  | false => exact sSumPlain_no a cap n ts w hs hb

set_option maxRecDepth 100000 in
set_option maxHeartbeats 1000000 in
theorem iSumPlain_yes (a : Option Addr) (cap n : Nat) (ts : List Tm) (w : World) (hs : IsTerms w a n ts) (hb : sumB ts = true) :
    Calls Try.prog 17 #[.slice a n cap] w fun e w' => e = .returned (.tuple #[.int .i64 (plainZ ts), .bool true]) ∧ Below w.heap.size w w' := by
  obtain ⟨h300, hcf⟩ := sumB_coef hb
  have hn : n ≤ 300 := by rw [← hs.len]; exact h300
  have HN := Lib.hid hs.len
  have HS := Lib.hid hs
  have HB := Lib.hid hb
  have HC := Lib.hid hcf
  clear hs hb hcf h300
  go_enter Try.func17, Try.ntmps17
  go_wp2_with fail
  refine (iSumIn_any a cap n ts _ HS.out).mono ?_
  rintro e w1 ⟨rfl, hb1⟩
  have hbb := HB.out
  rw [hbb]
  clear hbb
  go_wp2
  go_loopw [4, 12] (fun q i wr => ∃ (k : Nat) (z : Int), k ≤ n ∧ i = .int .i64 k ∧ q = .int .i64 z ∧ -1000000 * (k : Int) ≤ z ∧ z ≤ 1000000 * (k : Int) ∧ Hid (z = plainZ (ts.take k)) ∧ Below w.heap.size w wr) (fun _ i _ => n - (intOf i).toNat)
  case atStart => exact ⟨0, 0, Nat.zero_le _, rfl, rfl, by omega, by omega, Lib.hid rfl, hb1⟩
  case round =>
    obtain ⟨k, z, hk, rfl, rfl, hz1, hz2, HZ, hB⟩ := hrel
    by_cases hlt : k < n
    · have hkz : k < ts.length := by rw [HN.out]; exact hlt
      obtain ⟨x, rfl, hx⟩ := HS.out.at_ (by omega)
      obtain ⟨t, ht⟩ : ∃ t, ts[k] = t := ⟨_, rfl⟩
      have hcc := HC.out k hkz
      rw [ht] at hcc
      obtain ⟨hc1, hc2⟩ := hcc
      have hc := (hx.below hB).2 k hkz
      rw [ht, addr_next] at hc
      obtain ⟨c0, c1⟩ := hc
      have HT := Lib.hid ht
      clear ht hx
      go_wp2
      go_roundw
      case rel => exact ⟨k + 1, _, by omega, by go_num, rfl, by omega, by omega, Lib.hid (by rw [plainZ_succ ts k hkz, HT.out, HZ.out]), by first | exact hB | exact hB.alloc hB.size _⟩
      case measure => simp [intOf]; omega
    · obtain rfl : k = n := by omega
      have hz : plainZ ts = z := by rw [HZ.out, List.take_of_length_le (by rw [HN.out]; exact Nat.le_refl _)]
      have HZ2 := Lib.hid hz
      clear hz
      go_wp2
      go_ret2
      exact ⟨ret_plain HZ2.out, hB⟩

theorem iSumPlain_no (a : Option Addr) (cap n : Nat) (ts : List Tm) (w : World) (hs : IsTerms w a n ts) (hb : sumB ts = false) :
    Calls Try.prog 17 #[.slice a n cap] w fun e w' => e = .returned (.tuple #[.int .i64 0, .bool false]) ∧ Below w.heap.size w w' := by
  have HS := Lib.hid hs
  have HB := Lib.hid hb
  clear hs hb
  go_enter Try.func17, Try.ntmps17
  go_wp2_with fail
  refine (iSumIn_any a cap n ts _ HS.out).mono ?_
  rintro e w1 ⟨rfl, hb1⟩
  have hbb := HB.out
  rw [hbb]
  clear hbb
  go_wp2
  go_ret2
  exact ⟨rfl, hb1⟩

theorem iSumPlain_is (a : Option Addr) (cap n : Nat) (ts : List Tm) (b : Bool) (z : Int) (w : World) (hs : IsTerms w a n ts) (h : plainV (sumB ts) (plainZ ts) = .tuple #[.int .i64 z, .bool b]) :
    Calls Try.prog 17 #[.slice a n cap] w fun e w' => e = .returned (.tuple #[.int .i64 z, .bool b]) ∧ Below w.heap.size w w' := by
  rw [← h]
  cases hb : sumB ts with
  | true => exact iSumPlain_yes a cap n ts w hs hb
  | false => exact iSumPlain_no a cap n ts w hs hb

end Go.Proofs.Ytebgcebjlbhjjab

/- Letters as a free group: reducing goes along, inverses cancel, sums of letters, powers, commutators, putting. -/

namespace Go.Proofs.Ytebgcebjlbhjjab
open Go.RowKit

theorem toList_size (s : ByteArray) : s.data.toList.length = s.size := by simp
theorem letL_step {l : List UInt8} {c : UInt8} (hl : letL l = true) (hc : letB c = true) : letL (redStep l c) = true := by
  unfold redStep
  split
  · exact letL_of_mem l _ hl fun _ h => List.dropLast_subset _ h
  · rw [letL_append, hl, letL_cons, hc]; rfl
theorem letL_red2 : ∀ (s acc : List UInt8), letL s = true → letL acc = true → letL (redL acc s) = true
  | [], _, _, h => h
  | c :: s, acc, h, ha => by
    rw [letL_cons, Bool.and_eq_true] at h
    exact letL_red2 s (redStep acc c) h.2 (letL_step ha h.1)
theorem step_cancel {l : List UInt8} (hn : noC l) {x : UInt8} (hx : letB x = true) : redStep (redStep l x) (turnB x) = l := by
  obtain ⟨ht, hx2⟩ := turn_turn x hx
  by_cases h : l.getLast? = some (turnB x)
  · obtain ⟨p, y, rfl⟩ := last_split l (by cases l with | nil => simp at h | cons a l => simp)
    have hy : y = turnB x := by simpa using h
    subst hy
    rw [redStep_pop p (turnB x) x rfl]
    by_cases h2 : p.getLast? = some (turnB (turnB x))
    · exfalso
      obtain ⟨q, z, rfl⟩ := last_split p (by cases p with | nil => simp at h2 | cons a l => simp)
      have hz : z = turnB (turnB x) := by simpa using h2
      exact hn q z (turnB x) [] (by simp) hz
    · unfold redStep; rw [if_neg h2]
  · have e : redStep l x = l ++ [x] := by unfold redStep; rw [if_neg h]
    rw [e, redStep_pop l x (turnB x) ht.symm]
theorem red_through : ∀ (y acc : List UInt8), noC acc → letL y = true → redL acc (redL [] y) = redL acc y := by
  intro y
  generalize hn : y.length = n
  induction n generalizing y with
  | zero => intro acc _ _; rw [List.length_eq_zero_iff.1 hn]; rfl
  | succ n ih =>
    intro acc ha hl
    obtain ⟨p, c, rfl⟩ := last_split y (by omega)
    have hp : p.length = n := by rw [List.length_append] at hn; simp at hn; exact hn
    rw [letL_append, Bool.and_eq_true] at hl
    have hc : letB c = true := by have := hl.2; simp [letL] at this; exact this
    have h1 := ih p hp acc ha hl.1
    rw [redL_snoc, redL_snoc]
    by_cases h : (redL [] p).getLast? = some (turnB c)
    · obtain ⟨q, z, hq⟩ := last_split (redL [] p) (by cases hr : redL [] p with | nil => rw [hr] at h; simp at h | cons a l => simp)
      rw [hq] at h h1 ⊢
      have hz : z = turnB c := by simpa using h
      subst hz
      rw [redStep_pop q (turnB c) c rfl, ← h1, redL_snoc]
      have := step_cancel (noC_red q acc ha) (turn_turn c hc).2
      rw [(turn_turn c hc).1] at this
      exact this.symm
    · have e : redStep (redL [] p) c = redL [] p ++ [c] := by unfold redStep; rw [if_neg h]
      rw [e, redL_snoc, h1]
/-- Reducing parts first. -/
theorem red_both {a b : List UInt8} (hb : letL b = true) : redL [] (redL [] a ++ redL [] b) = redL [] (a ++ b) := by
  rw [red_append, redL_append, redL_append, red_through b _ (noC_red a [] noC_nil) hb]
theorem red_right {a b : List UInt8} (hb : letL b = true) : redL [] (a ++ redL [] b) = redL [] (a ++ b) := by
  rw [redL_append, redL_append, red_through b _ (noC_red a [] noC_nil) hb]
/-- A word and its inverse. -/
theorem red_cancel : ∀ (s acc : List UInt8), noC acc → letL s = true → redL (redL acc s) (backL s) = acc := by
  intro s
  induction s with
  | nil => intro acc _ _; rfl
  | cons c s ih =>
    intro acc ha hl
    rw [letL_cons, Bool.and_eq_true] at hl
    have e : backL (c :: s) = backL s ++ [turnB c] := by simp [backL]
    have e2 : redL acc (c :: s) = redL (redStep acc c) s := rfl
    rw [e, redL_append, e2, ih _ (noC_step acc c ha) hl.2]
    exact step_cancel ha hl.1
theorem red_inv {s : List UInt8} (hl : letL s = true) (a : List UInt8) : redL [] (a ++ s ++ backL s) = redL [] a := by
  rw [redL_append, redL_append]
  exact red_cancel s _ (noC_red a [] noC_nil) hl
theorem red_inv2 {s : List UInt8} (hl : letL s = true) (a : List UInt8) : redL [] (a ++ backL s ++ s) = redL [] a := by
  have := red_inv (letL_back s hl) a
  rwa [back_back s hl] at this
/-- Words that are the same behind each other's inverse. -/
theorem red_unique {a b : List UInt8} (hb : letL b = true) (h : redL [] (a ++ backL b) = []) : redL [] a = redL [] b := by
  have h1 : redL [] (a ++ backL b ++ b) = redL [] a := red_inv2 hb a
  rw [← h1, redL_append, h]
theorem back_red {s : List UInt8} (hl : letL s = true) : backL (redL [] s) = redL [] (backL s) := by
  have hr := letL_red2 s [] hl rfl
  have h1 : redL [] (backL (redL [] s)) = backL (redL [] s) := red_back _ hr (red_red s)
  rw [← h1]
  refine red_unique (letL_back s hl) ?_
  rw [back_back s hl, ← red_right hl]
  have := red_inv2 hr []
  rw [List.nil_append] at this
  exact this
/-! ### Sums of letters -/
theorem sgnB_bnd2 (x : UInt8) : -1 ≤ sgnB x ∧ sgnB x ≤ 1 := by unfold sgnB; split <;> omega
def sgL (i : Nat) : List UInt8 → Int
  | [] => 0
  | c :: r => (if idxB c = i then sgnB c else 0) + sgL i r
theorem sgL_append (i : Nat) : ∀ a b : List UInt8, sgL i (a ++ b) = sgL i a + sgL i b
  | [], b => by simp [sgL]
  | c :: r, b => by rw [List.cons_append, sgL, sgL, sgL_append i r b]; omega
theorem sg_turn {c : UInt8} (hc : letB c = true) : idxB (turnB c) = idxB c ∧ sgnB (turnB c) = - sgnB c := by
  have h := (letB_iff c).1 hc
  unfold idxB sgnB
  rcases h with h | h
  · have := turnB_hi c h.1
    rw [if_neg (by omega), if_pos (by omega), if_neg (by omega), if_pos (by omega)]; omega
  · have := turnB_lo c (by omega)
    rw [if_pos (by omega), if_neg (by omega), if_pos (by omega), if_neg (by omega)]; omega
theorem sgL_turn (i : Nat) {c : UInt8} (hc : letB c = true) : sgL i [turnB c] = - sgL i [c] := by
  obtain ⟨h1, h2⟩ := sg_turn hc
  simp only [sgL]
  rw [h1, h2]; split <;> omega
theorem sgL_back (i : Nat) : ∀ s : List UInt8, letL s = true → sgL i (backL s) = - sgL i s
  | [], _ => by simp [sgL, backL]
  | c :: s, h => by
    rw [letL_cons, Bool.and_eq_true] at h
    have e : backL (c :: s) = backL s ++ [turnB c] := by simp [backL]
    rw [e, sgL_append, sgL_back i s h.2, sgL_turn i h.1, show c :: s = [c] ++ s from rfl, sgL_append]; omega
theorem sgL_step (i : Nat) {l : List UInt8} {c : UInt8} (hc : letB c = true) : sgL i (redStep l c) = sgL i l + sgL i [c] := by
  by_cases h : l.getLast? = some (turnB c)
  · obtain ⟨p, y, rfl⟩ := last_split l (by cases l with | nil => simp at h | cons a l => simp)
    have hy : y = turnB c := by simpa using h
    subst hy
    rw [redStep_pop p (turnB c) c rfl, sgL_append, sgL_turn i hc]; omega
  · have e : redStep l c = l ++ [c] := by unfold redStep; rw [if_neg h]
    rw [e, sgL_append]
theorem sgL_red (i : Nat) : ∀ (s acc : List UInt8), letL s = true → sgL i (redL acc s) = sgL i acc + sgL i s
  | [], acc, _ => by simp [redL_nil, sgL]
  | c :: s, acc, h => by
    rw [letL_cons, Bool.and_eq_true] at h
    have e : redL acc (c :: s) = redL (redStep acc c) s := rfl
    rw [e, sgL_red i s _ h.2, sgL_step i h.1, show c :: s = [c] ++ s from rfl, sgL_append]; omega
theorem sums_get : ∀ (s : List UInt8), letL s = true → ∀ i (h : i < (sumsL s).length), (sumsL s)[i] = sgL i s := by
  intro s
  generalize hn : s.length = n
  induction n generalizing s with
  | zero =>
    intro _ i h
    obtain rfl := List.length_eq_zero_iff.1 hn
    have h4 : i < 4 := h
    rcases (show i = 0 ∨ i = 1 ∨ i = 2 ∨ i = 3 by omega) with rfl | rfl | rfl | rfl <;> rfl
  | succ n ih =>
    intro hl i h
    obtain ⟨p, c, rfl⟩ := last_split s (by omega)
    have hp : p.length = n := by rw [List.length_append] at hn; simp at hn; exact hn
    rw [letL_append, Bool.and_eq_true] at hl
    have hc : letB c = true := by have := hl.2; simp [letL] at this; exact this
    have h4 := (sumsL_inv p hl.1).1
    have hi := idxB_lt c hc
    have h4s := (sumsL_inv (p ++ [c]) (by rw [letL_append, hl.1, hl.2]; rfl)).1
    have hi4 : i < (sumsL p).length := by omega
    have h1 := ih p hp hl.1 i hi4
    have e : sumsL (p ++ [c]) = (sumsL p).set (idxB c) ((sumsL p)[idxB c]?.getD 0 + sgnB c) := sumsL_snoc p c
    simp only [e]
    rw [List.getElem_set, sgL_append, ← h1]
    simp only [sgL]
    by_cases hic : idxB c = i
    · subst hic
      rw [if_pos rfl, if_pos rfl, List.getElem?_eq_getElem hi4]
      simp
    · rw [if_neg hic, if_neg hic]; omega
theorem sums_eq {s t : List UInt8} (hs : letL s = true) (ht : letL t = true) (h : ∀ i, i < 4 → sgL i s = sgL i t) : sumsL s = sumsL t := by
  have h1 := (sumsL_inv s hs).1
  have h2 := (sumsL_inv t ht).1
  refine List.ext_getElem (by omega) fun i hi hj => ?_
  rw [sums_get s hs, sums_get t ht]
  exact h i (by omega)
/-! ### Powers -/
theorem powL_next {s : List UInt8} (hl : letL s = true) (n : Int) : redL [] (powL (n + 1) s) = redL [] (powL n s ++ s) := by
  unfold powL
  by_cases h : n < 0
  · rw [if_pos h]
    obtain ⟨m, hm⟩ : ∃ m : Nat, n.natAbs = m + 1 := ⟨n.natAbs - 1, by omega⟩
    have e1 : repL n.natAbs (backL s) = repL m (backL s) ++ backL s := by rw [hm, ← repL_add m 1, repL_one]
    rw [e1, red_inv2 hl]
    by_cases h2 : n + 1 < 0
    · rw [if_pos h2, show (n + 1).natAbs = m by omega]
    · rw [if_neg h2, show (n + 1).natAbs = 0 by omega, show m = 0 by omega]; rfl
  · rw [if_neg h, if_neg (show ¬ n + 1 < 0 by omega), show (n + 1).natAbs = n.natAbs + 1 by omega, ← repL_add n.natAbs 1, repL_one]

end Go.Proofs.Ytebgcebjlbhjjab

/- The contract of the program's 'WordSums'. -/

namespace Go.Proofs.Ytebgcebjlbhjjab
open Go.RowKit Go.Shelf

attribute [local go_sem] Oper.semAt_some

theorem idx_tab : ((List.range 256).all fun n => !(decide ((97 ≤ n ∧ n ≤ 100) ∨ (65 ≤ n ∧ n ≤ 68))) || (decide (bits BinOp.or IntKind.u8 (n : Int) 32 = ((if 97 ≤ n then n - 97 else n - 65 : Nat) : Int) + 97) && decide (bits BinOp.and IntKind.u8 (n : Int) 32 = if 97 ≤ n then 32 else 0))) = true := by kernel_rfl
theorem idx_let (c : UInt8) (h : letB c = true) : bits BinOp.or IntKind.u8 (c.toNat : Int) 32 = (idxB c : Int) + 97 ∧ bits BinOp.and IntKind.u8 (c.toNat : Int) 32 = if 97 ≤ c.toNat then 32 else 0 := by
  have := List.all_eq_true.1 idx_tab c.toNat (List.mem_range.2 c.toNat_lt)
  simp only [Bool.or_eq_true, Bool.and_eq_true, Bool.not_eq_true', decide_eq_false_iff_not, decide_eq_true_eq] at this
  exact this.resolve_left (fun h2 => h2 ((letB_iff c).1 h))

theorem iIndex_any (c : UInt8) (w : World) (h : letB c = true) :
    Calls Try.prog 85 #[.int .u8 (c.toNat : Int)] w fun e w' => e = .returned (.int .i64 (idxB c : Int)) ∧ w' = w := by
  have hb := (idx_let c h).1
  have hj := idxB_lt c h
  obtain ⟨j, hje⟩ : ∃ j, idxB c = j := ⟨_, rfl⟩
  rw [hje] at hb hj ⊢
  clear hje h
  go_enter Try.func85, Try.ntmps85
  go_wp2
  go_ret
  exact ⟨rfl, rfl⟩

theorem iSign_any (c : UInt8) (w : World) (h : letB c = true) :
    Calls Try.prog 86 #[.int .u8 (c.toNat : Int)] w fun e w' => e = .returned (.int .i64 (sgnB c)) ∧ w' = w := by
  have hb := (idx_let c h).2
  by_cases h97 : 97 ≤ c.toNat
  · rw [if_pos h97] at hb
    have hs : Hid (sgnB c = 1) := by unfold sgnB; rw [if_pos h97]; exact Lib.hid rfl
    clear h h97
    go_enter Try.func86, Try.ntmps86
    go_wp2
    go_ret
    exact ⟨ret_int hs.out.symm, rfl⟩
  · rw [if_neg h97] at hb
    have hs : Hid (sgnB c = -1) := by unfold sgnB; rw [if_neg h97]; exact Lib.hid rfl
    clear h h97
    go_enter Try.func86, Try.ntmps86
    go_wp2
    go_ret
    exact ⟨ret_int hs.out.symm, rfl⟩

set_option maxRecDepth 100000 in
set_option maxHeartbeats 2000000 in
theorem iWordSums_in (n : Nat) (hn : 40 ≤ n) (s : ByteArray) (w : World) (h : wordB s.data.toList = true) :
    CallsIn Fence.wide n Try.prog 29 #[.string s] w fun e w' => ∃ v, e = .returned (.tuple #[v, .bool true]) ∧ IntRow w.heap.size w' v (sumsL s.data.toList) ∧ Below w.heap.size w w' := by
  obtain ⟨h1, h2, _⟩ := (wordB_iff _).1 h
  have hs : s.size ≤ 60 := by simpa using h1
  have H := Lib.hid h
  have H2 := Lib.hid h2
  clear h h1 h2
  have hmk : ∀ w, (Instr.makeSlice 44 (.int .i64 4) (.int .i64 4)).run Try.prog w = .ok (.slice (some ⟨w.heap.size, 0, none⟩) 4 4) (w.alloc (.cells #[.int .i64 0, .int .i64 0, .int .i64 0, .int .i64 0] 3)) := fun _ => by kernel_rfl
  refine callsIn_of_wp_marks Try.func29 rfl trivial ?_ rfl
  simp only [Try.ntmps29, List.size_toArray, List.length_cons, List.length_nil, Nat.reduceAdd, Nat.reduceSub, Array.replicate_succ, Array.replicate_zero, List.push_toArray, List.append_toArray, List.nil_append, List.cons_append]
  gi_wp2_with fail
  refine ⟨trivial, fun _ => by omega, ?_⟩
  refine (callsIn_wide.2 (wordOf_yes s _ H.out)).mono ?_
  rintro e w1 ⟨g0, cap0, rfl, hown, hb1⟩
  have hw := Lib.hid (isWord_of_owns (n₀ := w1.heap.size) (l := s.data.toList) (by simp) (by omega) hown (Nat.le_refl _))
  clear hown
  gi_wp2_with fail
  refine ⟨trivial, fun _ => by omega, ?_⟩
  refine (callsIn_wide.2 (letters_fwd _ _ _ 1 _ (by decide))).mono ?_
  rintro e w2 ⟨rfl, rfl⟩
  have hrow : (w1.alloc (.cells #[.int .i64 0, .int .i64 0, .int .i64 0, .int .i64 0] 3)).ownsRow w1.heap.size 3 1 (.slice (some ⟨w1.heap.size, 0, none⟩) 4 4) 4 (intsV (sumsL [])) :=
    ⟨rfl, .inr ⟨_, 4, #[.int .i64 0, .int .i64 0, .int .i64 0, .int .i64 0], rfl, Nat.le_refl _, heap_alloc_new w1 _, Nat.le_refl _, by decide, rfl, rfl⟩⟩
  have hrow2 := (hrow.alloc (.cells #[.slice (some ⟨w1.heap.size, 0, none⟩) 4 4] 44)).alloc (.cells #[.slice (some ⟨g0, 0, none⟩) s.size cap0] WT)
  have hbx := (Boxed.new (w1.alloc (.cells #[.int .i64 0, .int .i64 0, .int .i64 0, .int .i64 0] 3)) 44 (.slice (some ⟨w1.heap.size, 0, none⟩) 4 4)).alloc (.cells #[.slice (some ⟨g0, 0, none⟩) s.size cap0] WT)
  have hbi := Boxed.new ((w1.alloc (.cells #[.int .i64 0, .int .i64 0, .int .i64 0, .int .i64 0] 3)).alloc (.cells #[.slice (some ⟨w1.heap.size, 0, none⟩) 4 4] 44)) WT (.slice (some ⟨g0, 0, none⟩) s.size cap0)
  have hBv : Below w1.heap.size w1 (((w1.alloc (.cells #[.int .i64 0, .int .i64 0, .int .i64 0, .int .i64 0] 3)).alloc (.cells #[.slice (some ⟨w1.heap.size, 0, none⟩) 4 4] 44)).alloc (.cells #[.slice (some ⟨g0, 0, none⟩) s.size cap0] WT)) := (((Below.refl _ w1).alloc (Nat.le_refl _) _).alloc (by simp) _).alloc (by simp; omega) _
  have hsz : (((w1.alloc (.cells #[.int .i64 0, .int .i64 0, .int .i64 0, .int .i64 0] 3)).alloc (.cells #[.slice (some ⟨w1.heap.size, 0, none⟩) 4 4] 44)).alloc (.cells #[.slice (some ⟨g0, 0, none⟩) s.size cap0] WT)).heap.size = w1.heap.size + 3 := by simp
  simp only [World.size_alloc] at hbx hbi ⊢
  generalize (((w1.alloc (.cells #[.int .i64 0, .int .i64 0, .int .i64 0, .int .i64 0] 3)).alloc (.cells #[.slice (some ⟨w1.heap.size, 0, none⟩) 4 4] 44)).alloc (.cells #[.slice (some ⟨g0, 0, none⟩) s.size cap0] WT)) = V at hrow2 hbx hbi hBv hsz ⊢
  have hwV : IsWord w1.heap.size V (.slice (some ⟨g0, 0, none⟩) s.size cap0) s.data.toList := hw.out.below hBv
  have HBI := Lib.hid hbi
  have HBX := Lib.hid hbx
  have HR2 := Lib.hid hrow2
  have HWV := Lib.hid hwV
  clear hrow hrow2 hbx hbi hwV hmk
  gi_wp2_with fail
  refine range_letters (by omega) (gf := 148) (lb := #[.pointer (some ⟨w1.heap.size + 1 + 1, 0, none⟩)]) rfl (enters_of Try.func148 (by kernel_rfl) rfl)
    (n₀ := w1.heap.size) (B := w1.heap.size) (xs := s.data.toList) (values_seq s.data.toList _ V (w1.heap.size + 1 + 1) w1.heap.size (by omega) (by omega) HBI.out.cell HWV.out) (by omega) (Nat.le_refl _) (by omega)
    (fun pre X => (∃ v, Boxed X (w1.heap.size + 1) 44 v ∧ X.ownsRow w1.heap.size 3 1 v 4 (intsV (sumsL pre)) ∧ v = .slice (some ⟨w1.heap.size, 0, none⟩) 4 4) ∧ Below w1.heap.size w1 X)
    (OwnFrom.and (Own.from (holdsRow_own w1.heap.size (w1.heap.size + 1) 44 3 1 (fun _ => 4) (fun pre => intsV (sumsL pre)) (fun _ v => v = .slice (some ⟨w1.heap.size, 0, none⟩) 4 4)) _) (ownFrom_below (Nat.le_refl _) (by omega)))
    ⟨⟨_, HBX.out, HR2.out, rfl⟩, hBv⟩
    (fun x => { tmps := #[.string s, undef, .slice none 0 0, .bool false, .slice (some ⟨g0, 0, none⟩) s.size cap0, .bool true, .pointer (some ⟨w1.heap.size + 1, 0, none⟩), .int .u8 (x.toNat : Int), .tuple #[.slice (some ⟨g0, 0, none⟩) s.size cap0, .bool true], .string s, .tuple #[.slice (some ⟨g0, 0, none⟩) s.size cap0, .bool true], .slice (some ⟨g0, 0, none⟩) s.size cap0, .bool true, .bool true, .bool false, .slice (some ⟨w1.heap.size, 0, none⟩) 4 4, .slice (some ⟨g0, 0, none⟩) s.size cap0, .func (.func 148) #[] #[.pointer (some ⟨w1.heap.size + 1 + 1, 0, none⟩)], .int .u8 (x.toNat : Int), undef, undef, undef, undef, undef, undef, undef, undef, undef, undef], defers := [] }) ?assign ?body ?done
  case assign =>
    intro l x W K hK
    gi_wp2
    exact hK
  case body =>
    rintro l pre x X ⟨⟨v, hbx, hrow, rfl⟩, hB⟩ hpre
    have hlet : letB x = true := List.all_eq_true.1 H2.out x (prefix_mem hpre)
    have hlp : letL pre = true := letL_of_mem _ _ H2.out (fun c hc => hpre.subset (by simp [hc]))
    have hplen := prefix_len hpre
    rw [show s.data.toList.length = s.size by simp] at hplen
    obtain ⟨hz4, hzb⟩ := sumsL_inv _ hlp
    obtain ⟨j, hj⟩ : ∃ j, idxB x = j := ⟨_, rfl⟩
    have hj4 : j < 4 := by rw [← hj]; exact idxB_lt _ hlet
    obtain ⟨z, hz⟩ : ∃ z, (sumsL pre)[j]'(by omega) = z := ⟨_, rfl⟩
    have hzm := hzb z (by rw [← hz]; exact List.getElem_mem _)
    have hz1' : -(1048576 : Int) ≤ z := by omega
    have hz2' : z ≤ 1048576 := by omega
    have hcl : X.cell? ⟨w1.heap.size, j, none⟩ = some (.int .i64 z) := by
      rw [hrow.cellAt j (by omega), ← hz]
      simp [intsV, hz4, hj4]
    have hfr := hrow.frozenAt j
    have hj4' : (j : Int) < 4 := by omega
    have hbc := hbx.cell
    have hstep : (intsV (sumsL pre)).set j (.int .i64 (z + sgnB x)) = intsV (sumsL (pre ++ [x])) := by
      rw [sumsL_snoc]
      unfold sumsStep intsV
      rw [hj, List.getElem?_eq_getElem (by omega), Option.getD_some, hz, List.map_set]
    have hsg : -1 ≤ sgnB x ∧ sgnB x ≤ 1 := by unfold sgnB; split <;> omega
    obtain ⟨u, hu⟩ : ∃ u, sgnB x = u := ⟨_, rfl⟩
    rw [hu] at hstep hsg
    obtain ⟨hu1, hu2⟩ := hsg
    have HST := Lib.hid hstep
    have HLet := Lib.hid hlet
    have HJ := Lib.hid hj
    have HU := Lib.hid hu
    have HR := Lib.hid hrow
    have HBX' := Lib.hid hbx
    have hd : 1 ≤ n - 1 - 1 := by omega
    have hmx : Try.prog.follows .mixedOrders = true := by kernel_rfl
    have hix : ∀ W, Calls Try.prog 85 #[.int .u8 (x.toNat : Int)] W fun e w' => e = .returned (.int .i64 (j : Int)) ∧ w' = W := fun W => by rw [← hj]; exact iIndex_any x W hlet
    have hsx : ∀ W, Calls Try.prog 86 #[.int .u8 (x.toNat : Int)] W fun e w' => e = .returned (.int .i64 u) ∧ w' = W := fun W => by rw [← hu]; exact iSign_any x W hlet
    have HIX := Lib.hid hix
    have HSX := Lib.hid hsx
    clear hstep hlet hlp hz4 hzb hz hzm hrow hj hu hbx hpre hplen hix hsx
    gi_wp2
    gi_region_with_o (first | (refine ⟨trivial, ?_⟩; gi_at_call 85; refine (CallsIn.inRound l (callsIn_wide.2 (HIX.out _))).mono ?_; rintro e w' ⟨rfl, rfl⟩) | (refine ⟨trivial, ?_⟩; gi_at_call 86; refine (CallsIn.inRound l (callsIn_wide.2 (HSX.out _))).mono ?_; rintro e w' ⟨rfl, rfl⟩))
    all_goals gi_wp2
    all_goals
      have hwrap : IntKind.i64.wrap (z + u) = z + u := IntWalk.i64_in _ (by omega)
      rw [hwrap]
      have hst := HR.out.stored j (.int .i64 (z + u))
      rw [HST.out] at hst
      have hko : KeepsOthers X (X.setCell ⟨w1.heap.size, j, none⟩ (.int .i64 (z + u))).drew := (KeepsOthers.setCell _ _ _).trans (KeepsOthers.drew _)
      exact ⟨hko.from _, ⟨((Below.refl _ X).setCell (p := ⟨w1.heap.size, j, none⟩) (Nat.le_refl _) _).drew, fun k cs t r hk _ hkB => (Below.heap_setCell _ _ _ k hkB).trans hk, hko.from _⟩,
        ⟨_, (Below.heap_setCell X ⟨w1.heap.size, j, none⟩ _ (w1.heap.size + 1) (by show w1.heap.size + 1 ≠ w1.heap.size; omega)).trans HBX'.out, hst.1, rfl⟩, (hB.setCell (p := ⟨w1.heap.size, j, none⟩) (Nat.le_refl _) _).drew⟩
  case done =>
    rintro D X hD ⟨⟨v, hbx, hrow, rfl⟩, hB⟩ hK
    have hbc := hbx.cell
    have HR := Lib.hid hrow
    clear hrow hbx
    gi_wp2
    refine ⟨by simp, .inl ⟨_, _, rfl, run_takeDeferred hK, ?_⟩⟩
    refine ⟨.tuple #[.slice (some ⟨w1.heap.size, 0, none⟩) 4 4, .bool true], by simp [results, Try.f29, go_sem], _, rfl, ?_, hb1.trans ((hB.trans (belowK_b (w := w1) (Nat.le_refl _) X D _ _ (by omega) hK rfl rfl)).mono hb1.size)⟩
    have := ownsRow_base (ownsRow_putObj HR.out (.deferred none) hK rfl) hb1.size
    unfold IntRow
    rw [(sumsL_inv _ H2.out).1]
    exact this

theorem iWordSums_yes (s : ByteArray) (w : World) (h : wordB s.data.toList = true) :
    Calls Try.prog 29 #[.string s] w fun e w' => ∃ v, e = .returned (.tuple #[v, .bool true]) ∧ IntRow w.heap.size w' v (sumsL s.data.toList) ∧ Below w.heap.size w w' :=
  (callsIn_wide (n := 50)).1 (iWordSums_in 50 (by omega) s w h)

theorem iWordSums_no (s : ByteArray) (w : World) (hs : s.size ≤ maxLen) (h : wordB s.data.toList = false) :
    Calls Try.prog 29 #[.string s] w fun e w' => ∃ v, e = .returned (.tuple #[v, .bool false]) ∧ IntRow w.heap.size w' v [] ∧ Below w.heap.size w w' := by
  have H := Lib.hid h
  clear h
  refine (callsIn_wide (n := 50)).1 ?_
  refine callsIn_of_wp_marks Try.func29 rfl trivial ?_ rfl
  simp only [Try.ntmps29, List.size_toArray, List.length_cons, List.length_nil, Nat.reduceAdd, Nat.reduceSub, Array.replicate_succ, Array.replicate_zero, List.push_toArray, List.append_toArray, List.nil_append, List.cons_append]
  gi_wp2_with fail
  refine ⟨trivial, ?_⟩
  refine (callsIn_wide.2 (wordOf_no s _ hs H.out)).mono ?_
  rintro e w1 ⟨rfl, hb1⟩
  gi_wp2_with fail
  exact ⟨.tuple #[.slice none 0 0, .bool false], by simp [results, Try.f29, go_sem], _, rfl, World.ownsRow_nil _ _ _ _, hb1⟩

end Go.Proofs.Ytebgcebjlbhjjab

/- A law for a region that draws its order, inside a fence, by what stands when some of its operations have come up: each operation is met once, in whatever order they come. -/

namespace Go.Proofs.Ytebgcebjlbhjjab
open Go.RowKit Go.Shelf

theorem count_set (l : List Bool) : ∀ i, l[i]? = some false → (l.set i true).count false + 1 = l.count false := by
  induction l with
  | nil => intro i h; simp at h
  | cons b r ih =>
    intro i h
    cases i with
    | zero => simp at h; subst h; simp
    | succ i =>
      simp only [List.getElem?_cons_succ] at h
      have := ih i h
      simp only [List.set_cons_succ, List.count_cons]
      omega
theorem listed_false {l : Array Bool} {i : Nat} (h : l.getD i true = false) : l.toList[i]? = some false := by
  rw [Array.getD_eq_getD_getElem?] at h
  rw [Array.getElem?_toList]
  cases e : l[i]? with
  | none => rw [e] at h; cases h
  | some b => rw [e] at h; simp at h; rw [h]

theorem wpAnyIn_inv {F : Fence} {n : Nat} {P : Program} {md : Region.Mode} {ops : Array Oper} {Q : Exit → Act → World → Prop} (Inv : Array Bool → Act → World → Prop)
    (hstep : ∀ listed a w i, Inv listed a w → listed.getD i true = false → (∀ o, ops[i]? = some o → ∀ e ∈ o.after, Region.binds md e = true → listed.getD e.on false = true) → i < ops.size →
      wpOpIn F n P ops Q i (fun a' w' => Inv (listed.setIfInBounds i true) a' w') a w)
    (hdone : ∀ listed a w, Inv listed a w → (∀ i o, ops[i]? = some o → (∀ e ∈ o.after, Region.binds md e = true → listed.getD e.on false = true) → listed.getD i true = true) → Q .normal a w) :
    ∀ (fuel : Nat) (listed : Array Bool) (a : Act) (w : World), listed.toList.count false ≤ fuel → Inv listed a w → wpAnyIn F n P md ops Q fuel listed a w := by
  have hd : ∀ listed a w, Inv listed a w → Region.ready md ops listed = [] → Q .normal a w := fun listed a w hI hr => hdone listed a w hI fun i o ho hall => by
    cases h : listed.getD i true with
    | true => rfl
    | false =>
      have : i ∈ Region.ready md ops listed := mem_ready.2 ⟨h, o, ho, hall⟩
      rw [hr] at this; cases this
  intro fuel
  induction fuel with
  | zero =>
    intro listed a w hc hI
    have hr : Region.ready md ops listed = [] := by
      rw [List.eq_nil_iff_forall_not_mem]
      intro j hj
      have h1 := listed_false (mem_ready.1 hj).1
      have := count_set _ _ h1
      omega
    exact ⟨hr, hd _ _ _ hI hr⟩
  | succ fuel ih =>
    intro listed a w hc hI
    refine ⟨fun h => hd _ _ _ hI h, fun i hi => ?_⟩
    obtain ⟨h1, o, ho, hall⟩ := mem_ready.1 hi
    refine wpOpIn_mono (fun a' w' h => ih _ a' w' ?_ h) (hstep listed a w i hI h1 (fun o' ho' => by rw [ho] at ho'; cases ho'; exact hall) (Array.getElem?_eq_some_iff.1 ho).1)
    have := count_set _ _ (listed_false h1)
    rw [Array.toList_setIfInBounds]
    omega

end Go.Proofs.Ytebgcebjlbhjjab

/- The contract of the program's 'WordPut'. -/

namespace Go.Proofs.Ytebgcebjlbhjjab
open Go.RowKit Go.Shelf

attribute [local go_sem] Oper.semAt_some

abbrev FV : Nat := 148

/-- What a round keeps, where the iterator is that of a word. -/
def KeepP (n₀ N : Nat) (W W' : World) : Prop := Below n₀ W W' ∧ KeepsFrom N W W'

/-- The loop's law at the letters of a word, for bodies that write where they will behind what was there. -/
theorem range_values {n : Nat} {g : Operand} {p : Tmp} {assign body : Code} {Q : Exit → Act → World → Prop} {a : Act} {w : World} {Bs : Nat} (hn : 14 ≤ n)
    (hg : a.eval g = .func (.func FV) #[] #[.pointer (some ⟨Bs, 0, none⟩)])
    {n₀ : Nat} {L : List UInt8} {sv : Value} (hBs : Bs < w.heap.size) (hc : w.cell? ⟨Bs, 0, none⟩ = some sv) (hw : IsWord n₀ w sv L) (hn₀ : n₀ ≤ w.heap.size)
    (I : List UInt8 → World → Prop) (hI : OwnFrom w.heap.size I) (h0 : I [] w) (a₁ : UInt8 → Act)
    (hassign : ∀ (l : Nat) (x : UInt8) (W : World) (K : Act → World → Prop), K (a₁ x) W →
      assign.wpIn (Fence.wide.inRound l) (n - 1 - 1) Try.prog (Exit.then K (fun _ _ _ => False)) { tmps := (#[p].zip (encB x)).foldl (fun t (q, v) => t.setIfInBounds q v) a.tmps, defers := [] } W)
    (hbody : ∀ (l : Nat) (pre : List UInt8) (x : UInt8) (W : World), I pre W → pre ++ [x] <+: L →
      body.wpIn (Fence.wide.inRound l) (n - 1 - 1) Try.prog (goesOn w.heap.size (KeepP n₀) I (pre ++ [x]) W) (a₁ x) W)
    (hdone : ∀ (D : Nat) (W : World), w.heap.size ≤ D → I L W → W.heap[D]? = some (.deferred (some [])) → Q .normal { a with defers := { target := .collected D, args := #[] } :: a.defers } W) :
    (Code.rangeFunc g #[p] assign body).wpIn Fence.wide n Try.prog Q a w :=
  range_law (by omega) hg (enters_of Try.func148 (by kernel_rfl) rfl) (fun _ => rfl) (KeepP n₀) (fun h k => ⟨h.1.trans k.1, h.2.trans k.2⟩)
    (fun N W l o o' hl hwl hW ho hwk => ⟨belowK_b hn₀ W l o o' hwl hW ho hwk, KeepsFrom.of_grownBy (grownBy_putObj' W l o') (fun j e => by cases e; exact hl)⟩)
    (fun h => ⟨h.1, keepsFrom_mono h.2 (by omega)⟩)
    (fun l J V hV hlt hJ hY h0 => (values1_in (n - 1) (by omega) l Bs n₀ L sv J (fun _ _ => False) (fun pre x W1 hj hl => (hY pre x W1 hj hl).mono (fun _ _ ⟨a, b, c⟩ => .inl ⟨a, b, c.1⟩)) V
      ((hV.cell (p := ⟨Bs, 0, none⟩) hBs).trans hc) (hw.below (hV.mono hn₀)) h0).mono (by
        rintro e W' ⟨hv, ⟨ys, rfl, hJ'⟩ | ⟨_, _, hf⟩⟩
        · exact ⟨hv, hJ'⟩
        · exact hf.elim)) I hI h0 a₁ hassign hbody hdone

/-- A part's box, and what it gives. -/
def PartAt (N : Nat) (w W : World) (p : Part) : Prop :=
  ∃ B sv L, p.lb = #[.pointer (some ⟨B, 0, none⟩)] ∧ N ≤ B ∧ Boxed W B WT sv ∧ Gives ⟨p.gf, sv, L, p.xs⟩ ∧ IsWord N w sv L
theorem PartAt.own (N : Nat) (w : World) (p : Part) : Own (fun (_ : Unit) W => PartAt N w W p) := by
  rintro s X Y row ⟨B, sv, L, h1, h2, h3, h4⟩ hg hrow
  exact ⟨B, sv, L, h1, h2, boxed_own B WT (fun _ : Unit => sv) () X Y row h3 hg hrow, h4⟩

def funcV (p : Part) : Value := .func (.func p.gf) #[] p.lb
/-- The parts that the loop has gathered. -/
def Gathered (N BP : Nat) (w : World) (img : UInt8 → List UInt8) (pre : List UInt8) (W : World) : Prop :=
  ∃ ps : List Part, ps.length = pre.length ∧ cat ps = (pre.map img).flatten ∧ (∃ v, Boxed W BP 130 v ∧ W.ownsRow N IT 1 v ps.length (ps.map funcV) ∧ True) ∧ ∀ p ∈ ps, PartAt N w W p
theorem Gathered.own (N BP : Nat) (w : World) (img : UInt8 → List UInt8) : Own (Gathered N BP w img) := by
  rintro s X Y row ⟨ps, h1, h2, h3, h4⟩ hg hrow
  exact ⟨ps, h1, h2, holdsRow_own N BP _ IT 1 (fun _ : Unit => ps.length) (fun _ => ps.map funcV) (fun _ _ => True) () X Y row h3 hg hrow, fun p hp => PartAt.own N w p () X Y row (h4 p hp) hg hrow⟩

/-- The letters of a letter's image, as its iterator gives them. -/
def imgX (zs : List ByteArray) (x : UInt8) : List UInt8 := if 97 ≤ x.toNat then (zs.getD (idxB x) ByteArray.empty).data.toList else (zs.getD (idxB x) ByteArray.empty).data.toList.reverse.map invB
/-- All images, one behind the other. -/
def putX (zs : List ByteArray) (L : List UInt8) : List UInt8 := (L.map (imgX zs)).flatten
theorem imgX_len (zs : List ByteArray) (hz : ∀ z ∈ zs, wordB z.data.toList = true) (x : UInt8) : (imgX zs x).length ≤ 60 := by
  have hz' : (zs.getD (idxB x) ByteArray.empty).data.toList.length ≤ 60 := by
    rw [List.getD_eq_getElem?_getD]
    cases h : zs[idxB x]? with
    | none => simp
    | some z => exact ((wordB_iff _).1 (hz z (List.mem_of_getElem? h))).1
  unfold imgX
  split
  · exact hz'
  · rw [List.length_map, List.length_reverse]; exact hz'
theorem putX_len (zs : List ByteArray) (L : List UInt8) (hz : ∀ z ∈ zs, wordB z.data.toList = true) : (putX zs L).length ≤ L.length * 60 := by
  unfold putX
  induction L with
  | nil => simp
  | cons x r ih =>
    rw [List.map_cons, List.flatten_cons, List.length_append, List.length_cons]
    have := imgX_len zs hz x
    omega
theorem imgX_eq (zs : List ByteArray) (hz : ∀ z ∈ zs, wordB z.data.toList = true) (x : UInt8) : imgX zs x = imgL zs x ∧ letL (imgL zs x) = true := by
  have hl : letL (zs.getD (idxB x) ByteArray.empty).data.toList = true := by
    rw [List.getD_eq_getElem?_getD]
    cases h : zs[idxB x]? with
    | none => rfl
    | some z => exact ((wordB_iff _).1 (hz z (List.mem_of_getElem? h))).2.1
  unfold imgX imgL
  by_cases h : 97 ≤ x.toNat
  · rw [if_pos h, if_neg (by omega)]; exact ⟨rfl, hl⟩
  · rw [if_neg h, if_pos (by omega)]; exact ⟨inv_back _ hl, letL_back _ hl⟩
theorem putX_eq (zs : List ByteArray) (L : List UInt8) (hz : ∀ z ∈ zs, wordB z.data.toList = true) : putX zs L = putL zs L ∧ letL (putL zs L) = true := by
  unfold putX putL
  induction L with
  | nil => exact ⟨rfl, rfl⟩
  | cons x r ih =>
    obtain ⟨h1, h2⟩ := imgX_eq zs hz x
    rw [List.map_cons, List.map_cons, List.flatten_cons, List.flatten_cons, h1, ih.1, letL_append, h2, ih.2]
    exact ⟨rfl, rfl⟩
theorem letL_putX (zs : List ByteArray) (L : List UInt8) (hz : ∀ z ∈ zs, wordB z.data.toList = true) : letL (putX zs L) = true := by
  rw [(putX_eq zs L hz).1]; exact (putX_eq zs L hz).2
abbrev LTi : TypeId := 130

theorem infoSeqI : (Try.prog.info? IT).map (fun i => (i.zero, i.size, i.bytes)) = some (some .nilFunc, 1, 8) := by kernel_rfl

/-- An append in whatever place of a region. -/
theorem wpIn_append_op {F : Fence} {n : Nat} {P : Program} (w : World) {o : Oper} {a : Act} {K : Act → World → Prop} {Q : Exit → Act → World → Prop}
    (s x : Operand) (t : TypeId) (hop : o.op = Op.call { callee := Callee.builtin Builtin.append, args := #[s, x], argTypes := #[t, t] })
    (base : Nat) (e : TypeId) (i : TypeInfo) (z : Value) (size bytes : Nat) (h1 : P.underlying t = some (.slice e)) (h2 : P.info? e = some i) (h3 : i.zero = some z) (h4 : i.size = size) (h5 : i.bytes = bytes) (h6 : z.cells.size = size) (h7 : 0 < size)
    (v : Value) (k : Nat) (xs : List Value) (hs : a.eval s = v) (hown : w.ownsRow base e size v k xs) (ad : Addr) (m c : Nat) (news : List Value) (hx : a.eval x = .slice (some ad) m c) (hn : news.length = m * size)
    (hc : ∀ j u, news[j]? = some u → w.cell? (ad.add j) = some u) (h1c : ∀ u ∈ news, u.oneCell' = true) (b1 : k + m ≤ maxLen) (b2 : (k + m) * bytes ≤ 140737488355328) (b3 : base ≤ w.heap.size)
    (hK : ∀ v' w', w'.ownsRow base e size v' (k + m) (xs ++ news) → w.grownBy w' v.ownBlock → True → K (a.put o.dst v') w') : o.wpIn F n P a w K Q := by
  obtain ⟨v', w', hrun, r1, r2, _⟩ := run_append_own (P := P) w base t o.type e i z size bytes h1 h2 h3 h4 h5 h6 h7 v k xs hown ad m c news hn hc h1c b1 b2 b3
  unfold Oper.wpIn
  refine ⟨by simp [Oper.about, hop, resolve, Target.leads, Sem.run_pure], ?_⟩
  rw [Oper.semAt_plain F _ _ (by rw [hop]; intro c hc'; cases hc')]
  simp [execOp, hop, resolve, invoke, builtin, hs, hx, hrun, Result.andThen]
  exact hK v' w' r1 r2 trivial

theorem wordsOf_four (g : Nat) (zs : List ByteArray) (w : World) (hl : zs.length = 4) (hg : g < w.heap.size) (hc : ∀ i (h : i < zs.length), w.cell? ⟨g, i, none⟩ = some (.string zs[i])) (hf : ∀ z ∈ zs, wordB z.data.toList = true) (cap : Nat) :
    Calls Try.prog 103 #[.slice (some ⟨g, 0, none⟩) 4 cap] w fun e w' =>
      ∃ (gi : Nat) (vals : List Value), e = .returned (.tuple #[.slice (some ⟨gi, 0, none⟩) 4 4, .bool true]) ∧ gi < w'.heap.size ∧ (∀ j (h : j < zs.length), ∃ v, w'.cell? ⟨gi, j, none⟩ = some v ∧ vals[j]? = some v ∧ WordAt w.heap.size w' v zs[j].data.toList) ∧ Below w.heap.size w w' := by
  refine (wordsOf_any (some ⟨g, 0, none⟩) g 0 cap 4 zs w hl (by decide) (fun _ => rfl) hg (fun i h => by rw [Nat.zero_add]; exact hc i h) (fun s hs => by have := ((wordB_iff _).1 (hf s hs)).1; simp at this; unfold maxLen; omega)).mono ?_
  rintro e w' ⟨⟨_, s, hs, hb⟩ | ⟨gi, vals, rfl, _, hown, hv⟩, hB⟩
  · rw [hf s hs] at hb; cases hb
  · have hlen := hown.1
    refine ⟨gi, vals, rfl, (ownsRow_cap hown).2.2.2, fun j h => ?_, hB⟩
    have hj : j < vals.length := by omega
    exact ⟨vals[j], by rw [hown.cellAt j (by omega)]; exact List.getElem?_eq_getElem hj, List.getElem?_eq_getElem hj, hv j h _ (List.getElem?_eq_getElem hj)⟩

theorem owns_slice {W : World} {base : Nat} {e : TypeId} {v : Value} {n : Nat} {xs : List Value} (h : W.ownsRow base e 1 v n xs) (h0 : 0 < W.heap.size) :
    ∃ a cap b, v = .slice a n cap ∧ (0 < n → a = some ⟨b, 0, none⟩) ∧ b < W.heap.size ∧ ∀ i (h : i < xs.length), W.cell? ⟨b, i, none⟩ = some xs[i] := by
  have hl := h.1
  rw [Nat.mul_one] at hl
  have hc := fun g cap (e : v = .slice (some ⟨g, 0, none⟩) n cap) => e
  rcases h.2 with ⟨rfl, e⟩ | ⟨g, cap, cur, rfl, e2⟩
  · have e0 : n = 0 := e
    subst e0
    exact ⟨none, 0, 0, rfl, fun h => absurd h (Nat.lt_irrefl _), h0, fun i hi => absurd hi (by omega)⟩
  · refine ⟨_, cap, g, rfl, fun _ => rfl, (ownsRow_cap h).2.2.2, fun i hi => ?_⟩
    rw [h.cellAt i (by omega)]
    exact List.getElem?_eq_getElem hi

/-- Four words in memory. -/
def FourAt (gi : Nat) (lo : Nat) (w : World) (zs : List ByteArray) : Prop :=
  gi < w.heap.size ∧ ∀ j (h : j < zs.length), ∃ v, w.cell? ⟨gi, j, none⟩ = some v ∧ WordAt lo w v zs[j].data.toList
theorem FourAt.below {gi lo : Nat} {w w' : World} {zs : List ByteArray} (h : FourAt gi lo w zs) (hb : Below w.heap.size w w') : FourAt gi lo w' zs :=
  ⟨Nat.lt_of_lt_of_le h.1 hb.size, fun j hj => by
    obtain ⟨v, h1, h2⟩ := h.2 j hj
    exact ⟨v, (hb.cell (p := ⟨gi, j, none⟩) h.1).trans h1, h2.below hb⟩⟩

set_option maxRecDepth 100000 in
set_option maxHeartbeats 4000000 in
theorem wordPut_in (n : Nat) (hn : 40 ≤ n) (g1 k cap1 gi cg lo : Nat) (L : List UInt8) (zs : List ByteArray) (w2 : World) (hk : L.length = k) (hk60 : k ≤ 60) (hL : letL L = true)
    (hw1 : IsWord w2.heap.size w2 (.slice (some ⟨g1, 0, none⟩) k cap1) L) (hz4 : zs.length = 4) (hz : ∀ z ∈ zs, wordB z.data.toList = true) (hvals : FourAt gi lo w2 zs) :
    CallsIn Fence.wide n Try.prog 70 #[.slice (some ⟨g1, 0, none⟩) k cap1, .slice (some ⟨gi, 0, none⟩) 4 cg] w2 fun e w' =>
      ∃ g m cap, e = .returned (.slice (some ⟨g, 0, none⟩) m cap) ∧ (redX [] (L.map (imgX zs)).flatten).length = m ∧ w'.ownsRow w2.heap.size 96 1 (.slice (some ⟨g, 0, none⟩) m cap) m (bytesV (redX [] (L.map (imgX zs)).flatten)) ∧ Below w2.heap.size w2 w' := by
  have hgi := hvals.1
  have H2 := Lib.hid hL
  have HZ := Lib.hid hz
  have HV := Lib.hid hvals.2
  have HKL := Lib.hid hk
  have hw1 := Lib.hid hw1
  clear hL hz hvals hk
  refine callsIn_of_wp_marks Try.func70 rfl trivial ?_ rfl
  simp only [Try.ntmps70, List.size_toArray, List.length_cons, List.length_nil, Nat.reduceAdd, Nat.reduceSub, Array.replicate_succ, Array.replicate_zero, List.push_toArray, List.append_toArray, List.nil_append, List.cons_append]
  gi_wp2_with fail
  refine ⟨trivial, fun _ => by omega, ?_⟩
  refine (callsIn_wide.2 (letters_fwd _ _ _ 1 _ (by decide))).mono ?_
  rintro e w3 ⟨rfl, rfl⟩
  have h8 := ((Boxed.new w2 73 (.slice (some ⟨gi, 0, none⟩) 4 cg)).alloc (.cells #[.slice none 0 0] LTi)).alloc (.cells #[.slice (some ⟨g1, 0, none⟩) k cap1] WT)
  have h9 := (Boxed.new (w2.alloc (.cells #[.slice (some ⟨gi, 0, none⟩) 4 cg] 73)) LTi (.slice none 0 0)).alloc (.cells #[.slice (some ⟨g1, 0, none⟩) k cap1] WT)
  have hb := Boxed.new ((w2.alloc (.cells #[.slice (some ⟨gi, 0, none⟩) 4 cg] 73)).alloc (.cells #[.slice none 0 0] LTi)) WT (.slice (some ⟨g1, 0, none⟩) k cap1)
  have hBv : Below w2.heap.size w2 (((w2.alloc (.cells #[.slice (some ⟨gi, 0, none⟩) 4 cg] 73)).alloc (.cells #[.slice none 0 0] LTi)).alloc (.cells #[.slice (some ⟨g1, 0, none⟩) k cap1] WT)) := (((Below.refl _ w2).alloc (Nat.le_refl _) _).alloc (by simp) _).alloc (by simp; omega) _
  have hsz : (((w2.alloc (.cells #[.slice (some ⟨gi, 0, none⟩) 4 cg] 73)).alloc (.cells #[.slice none 0 0] LTi)).alloc (.cells #[.slice (some ⟨g1, 0, none⟩) k cap1] WT)).heap.size = w2.heap.size + 3 := by simp
  simp only [World.size_alloc] at h9 hb ⊢
  generalize (((w2.alloc (.cells #[.slice (some ⟨gi, 0, none⟩) 4 cg] 73)).alloc (.cells #[.slice none 0 0] LTi)).alloc (.cells #[.slice (some ⟨g1, 0, none⟩) k cap1] WT)) = V at h8 h9 hb hBv hsz ⊢
  have hwV : IsWord w2.heap.size V (.slice (some ⟨g1, 0, none⟩) k cap1) L := hw1.out.below hBv
  have HB8 := Lib.hid h8
  have HB9 := Lib.hid h9
  have HBB := Lib.hid hb
  have HWV := Lib.hid hwV
  clear h8 h9 hb hwV
  gi_wp2_with fail
  refine range_values (by omega) (Bs := w2.heap.size + 1 + 1) rfl (n₀ := w2.heap.size + 1) (L := L) (by omega) HBB.out.cell (HWV.out.mono (by omega)) (by omega)
    (fun pre X => Gathered (w2.heap.size + 1) (w2.heap.size + 1) V (imgX zs) pre X ∧ Below (w2.heap.size + 1) V X)
    (OwnFrom.and (Own.from (Gathered.own _ _ _ _) _) (ownFrom_below (by omega) (by omega)))
    ⟨⟨[], rfl, rfl, ⟨_, HB9.out, ⟨rfl, .inl ⟨rfl, rfl⟩⟩, trivial⟩, fun p h => by cases h⟩, Below.refl _ _⟩
    (fun x => { tmps := #[.slice (some ⟨g1, 0, none⟩) k cap1, .slice (some ⟨gi, 0, none⟩) 4 cg, undef, .pointer (some ⟨w2.heap.size, 0, none⟩), .slice none 0 0, .pointer (some ⟨w2.heap.size + 1, 0, none⟩), .int .u8 (x.toNat : Int), .slice (some ⟨g1, 0, none⟩) k cap1, .func (.func FV) #[] #[.pointer (some ⟨w2.heap.size + 1 + 1, 0, none⟩)], .int .u8 (x.toNat : Int), undef, undef, undef, undef, undef, undef, undef, undef, undef, undef, undef, undef, undef], defers := [] }) ?assign ?body ?done
  case assign =>
    intro l x W K hK
    gi_wp2
    exact hK
  case body =>
    rintro l pre x W ⟨⟨ps, hps, hcat, ⟨pv, hbx, hrow, _⟩, hpa⟩, hB⟩ hpre
    have hlet : letB x = true := List.all_eq_true.1 H2.out x (prefix_mem hpre)
    have hplen := prefix_len hpre
    rw [HKL.out] at hplen
    obtain ⟨j, hj⟩ : ∃ j, idxB x = j := ⟨_, rfl⟩
    have hj4 : j < 4 := by rw [← hj]; exact idxB_lt _ hlet
    obtain ⟨vj, hcv, hWA⟩ := HV.out j (by omega)
    have hcW : W.cell? ⟨gi, j, none⟩ = some vj := ((hB.cell (p := ⟨gi, j, none⟩) (by show gi < _; omega)).trans (hBv.cell (p := ⟨gi, j, none⟩) hgi)).trans hcv
    have hc8 : W.cell? ⟨w2.heap.size, 0, none⟩ = some (.slice (some ⟨gi, 0, none⟩) 4 cg) := (hB.cell (p := ⟨w2.heap.size, 0, none⟩) (by show w2.heap.size < _; omega)).trans HB8.out.cell
    have hc9 := hbx.cell
    have hIW : IsWord (w2.heap.size + 1) V vj (zs[j]'(by omega)).data.toList := (hWA.isWord.below hBv).mono (by omega)
    obtain ⟨gj, cj, rfl⟩ := hWA.slice
    obtain ⟨u, hu⟩ : ∃ u, sgnB x = u := ⟨_, rfl⟩
    obtain ⟨vj, hvj⟩ : ∃ v, Value.slice (some ⟨gj, 0, none⟩) (zs[j]'(by omega)).data.toList.length cj = v := ⟨_, rfl⟩
    obtain ⟨gf, hlt, hgv⟩ : ∃ gf : Nat, (∀ X : World, Calls Try.prog 79 #[vj, .int .i64 u] X fun e X' => e = .returned (.func (.func gf) #[] #[.pointer (some ⟨X.heap.size, 0, none⟩)]) ∧ X' = X.alloc (.cells #[vj] WT)) ∧ Gives ⟨gf, vj, (zs[j]'(by omega)).data.toList, imgX zs x⟩ := by
      have hgd : zs.getD (idxB x) ByteArray.empty = zs[j]'(by omega) := by rw [hj, List.getD_eq_getElem?_getD, List.getElem?_eq_getElem (by omega)]; rfl
      rw [← hvj, ← hu]
      by_cases h97 : 97 ≤ x.toNat
      · refine ⟨FV, fun X => letters_fwd _ _ _ _ X (by unfold sgnB; rw [if_pos h97]; decide), ?_⟩
        have : imgX zs x = (zs[j]'(by omega)).data.toList := by unfold imgX; rw [if_pos h97, hgd]
        rw [this]; exact gives_fwd _ _
      · refine ⟨140, fun X => letters_bwd _ _ _ _ X (by unfold sgnB; rw [if_neg h97]; decide), ?_⟩
        have : imgX zs x = (zs[j]'(by omega)).data.toList.reverse.map invB := by unfold imgX; rw [if_neg h97, hgd]
        rw [this]; exact gives_bwd _ _
    rw [hvj] at hcW hIW
    have hix : ∀ X, Calls Try.prog 85 #[.int .u8 (x.toNat : Int)] X fun e X' => e = .returned (.int .i64 (j : Int)) ∧ X' = X := fun X => by rw [← hj]; exact iIndex_any x X hlet
    have hsx : ∀ X, Calls Try.prog 86 #[.int .u8 (x.toNat : Int)] X fun e X' => e = .returned (.int .i64 u) ∧ X' = X := fun X => by rw [← hu]; exact iSign_any x X hlet
    have HIX := Lib.hid hix
    have HSX := Lib.hid hsx
    have HLT := Lib.hid hlt
    have HGV := Lib.hid hgv
    have HIW := Lib.hid hIW
    have HPA := Lib.hid hpa
    have HROW := Lib.hid hrow
    have HBX := Lib.hid hbx
    have hpl : ps.length ≤ 60 := by omega
    have HK := Lib.hid hps
    have HCAT := Lib.hid hcat
    clear hix hsx hlt hgv hIW hpa hrow hbx hcv hWA hpre hps hcat
    gi_wp2
    refine wpIn_region_any (by kernel_rfl) ?_
    change wpAnyIn _ _ _ _ _ _ _ _ _ (World.drew _)
    obtain ⟨i0, hi0, hz0, hz1, hz2⟩ := info_parts infoSeqI
    obtain ⟨fv, hfv⟩ : ∃ fv, Value.func (.func gf) #[] #[.pointer (some ⟨W.heap.size, 0, none⟩)] = fv := ⟨_, rfl⟩
    obtain ⟨S3, hS3⟩ : ∃ S3 : Value → World → Prop, S3 = fun v X => X.ownsRow (w2.heap.size + 1) IT 1 v (ps.length + 1) (ps.map funcV ++ [fv]) ∧ ((W.drew.alloc (.cells #[vj] WT)).alloc (.cells #[fv] IT)).grownBy X pv.ownBlock := ⟨_, rfl⟩
    refine wpAnyIn_inv (fun listed a X => ∃ (b0 b1 b2 b3 b4 b5 b6 b7 b8 b9 b10 b11 : Bool) (t31 t32 t33 t34 t35 t36 t37 t38 t39 t40 t41 : Value), listed = #[b0, b1, b2, b3, b4, b5, b6, b7, b8, b9, b10, b11] ∧ a = { tmps := #[.slice (some ⟨g1, 0, none⟩) k cap1, .slice (some ⟨gi, 0, none⟩) 4 cg, undef, .pointer (some ⟨w2.heap.size, 0, none⟩), .slice none 0 0, .pointer (some ⟨w2.heap.size + 1, 0, none⟩), .int .u8 (x.toNat : Int), .slice (some ⟨g1, 0, none⟩) k cap1, .func (.func FV) #[] #[.pointer (some ⟨w2.heap.size + 1 + 1, 0, none⟩)], .int .u8 (x.toNat : Int), t31, t32, t33, t34, t35, t36, t37, t38, t39, t40, t41, undef, undef], defers := [] } ∧
      ((b0 = true → t31 = pv) ∧ (b1 = true → t32 = .slice (some ⟨gi, 0, none⟩) 4 cg) ∧ (b2 = true → t33 = .int .u8 (x.toNat : Int)) ∧ (b3 = true → t34 = .int .i64 (j : Int)) ∧ (b4 = true → t35 = .pointer (some ⟨gi, j, none⟩)) ∧ (b5 = true → t36 = vj) ∧ (b6 = true → t37 = .int .u8 (x.toNat : Int)) ∧ (b7 = true → t38 = .int .i64 u) ∧ (b8 = true → t39 = fv) ∧ (b9 = true → t40 = .slice (some ⟨W.heap.size + 1, 0, none⟩) 1 1)) ∧
      ((b3 = true → b2 = true) ∧ (b4 = true → b1 = true ∧ b3 = true) ∧ (b5 = true → b4 = true) ∧ (b7 = true → b6 = true ∧ b3 = true) ∧ (b8 = true → b5 = true ∧ b7 = true) ∧ (b9 = true → b8 = true) ∧ (b10 = true → b9 = true ∧ b0 = true) ∧ (b11 = true → b10 = true)) ∧
      ((b8 = false → X = W.drew) ∧ (b8 = true → b9 = false → X = W.drew.alloc (.cells #[vj] WT)) ∧ (b9 = true → b10 = false → X = (W.drew.alloc (.cells #[vj] WT)).alloc (.cells #[fv] IT)) ∧ (b10 = true → b11 = false → S3 t41 X) ∧ (b11 = true → ∃ X0, S3 t41 X0 ∧ X = X0.setCell ⟨w2.heap.size + 1, 0, none⟩ t41))) ?step ?rdone _ _ _ _ (by decide) ?init
    case init =>
      exact ⟨false, false, false, false, false, false, false, false, false, false, false, false, undef, undef, undef, undef, undef, undef, undef, undef, undef, undef, undef, rfl, rfl, by simp, by simp, by simp⟩
    case step =>
      rintro listed a X i ⟨b0, b1, b2, b3, b4, b5, b6, b7, b8, b9, b10, b11, t31, t32, t33, t34, t35, t36, t37, t38, t39, t40, t41, rfl, rfl, ⟨v0, v1, v2, v3, v4, v5, v6, v7, v8, v9⟩, ⟨c3, c4, c5, c7, c8, c9, c10, c11⟩, ⟨x0, x1, x2, x3, x4⟩⟩ hun hdep hi
      have hi' : i = 0 ∨ i = 1 ∨ i = 2 ∨ i = 3 ∨ i = 4 ∨ i = 5 ∨ i = 6 ∨ i = 7 ∨ i = 8 ∨ i = 9 ∨ i = 10 ∨ i = 11 := by
        have : i < 12 := hi
        omega
      rcases hi' with rfl | rfl | rfl | rfl | rfl | rfl | rfl | rfl | rfl | rfl | rfl | rfl
      · -- 0
        obtain rfl : b0 = false := hun
        have hx : X.cell? ⟨w2.heap.size + 1, 0, none⟩ = some pv := by
          cases b8 with
          | false => rw [x0 rfl]; exact hc9
          | true =>
            cases b9 with
            | false => rw [x1 rfl rfl]; exact cell_past (cell_drawn hc9) _
            | true =>
              cases b10 with
              | false => rw [x2 rfl rfl]; exact cell_past (cell_past (cell_drawn hc9) _) _
              | true => have := (c10 rfl).2; cases this
        refine wpOpIn_step rfl (fun K' hK => ?_)
        go_simp
        refine hK _ _ ⟨true, _, _, _, _, _, _, _, _, _, _, _, _, _, _, _, _, _, _, _, _, _, _, rfl, rfl, ⟨fun _ => rfl, (by first | exact v1 | exact fun _ => rfl), (by first | exact v2 | exact fun _ => rfl), (by first | exact v3 | exact fun _ => rfl), (by first | exact v4 | exact fun _ => rfl), (by first | exact v5 | exact fun _ => rfl), (by first | exact v6 | exact fun _ => rfl), (by first | exact v7 | exact fun _ => rfl), (by first | exact v8 | exact fun _ => rfl), (by first | exact v9 | exact fun _ => rfl)⟩, ⟨c3, c4, c5, c7, c8, c9, fun h => ⟨(c10 h).1, rfl⟩, c11⟩, ⟨x0, x1, x2, x3, x4⟩⟩
      · -- 1
        obtain rfl : b1 = false := hun
        have q8 : b8 = false := by
          cases b8 with
          | false => rfl
          | true => have := (c4 (c5 (c8 rfl).1)).1; cases this
        obtain rfl := x0 q8
        have hx : W.drew.cell? ⟨w2.heap.size, 0, none⟩ = some (.slice (some ⟨gi, 0, none⟩) 4 cg) := hc8
        refine wpOpIn_step rfl (fun K' hK => ?_)
        go_simp
        refine hK _ _ ⟨_, true, _, _, _, _, _, _, _, _, _, _, _, _, _, _, _, _, _, _, _, _, _, rfl, rfl, ⟨(by first | exact v0 | exact fun _ => rfl), fun _ => rfl, (by first | exact v2 | exact fun _ => rfl), (by first | exact v3 | exact fun _ => rfl), (by first | exact v4 | exact fun _ => rfl), (by first | exact v5 | exact fun _ => rfl), (by first | exact v6 | exact fun _ => rfl), (by first | exact v7 | exact fun _ => rfl), (by first | exact v8 | exact fun _ => rfl), (by first | exact v9 | exact fun _ => rfl)⟩, ⟨c3, fun h => ⟨rfl, (c4 h).2⟩, c5, c7, c8, c9, c10, c11⟩, ⟨x0, x1, x2, x3, x4⟩⟩
      · -- 2
        obtain rfl : b2 = false := hun
        refine wpOpIn_step rfl (fun K' hK => ?_)
        go_simp
        refine hK _ _ ⟨_, _, true, _, _, _, _, _, _, _, _, _, _, _, _, _, _, _, _, _, _, _, _, rfl, rfl, ⟨(by first | exact v0 | exact fun _ => rfl), (by first | exact v1 | exact fun _ => rfl), fun _ => rfl, (by first | exact v3 | exact fun _ => rfl), (by first | exact v4 | exact fun _ => rfl), (by first | exact v5 | exact fun _ => rfl), (by first | exact v6 | exact fun _ => rfl), (by first | exact v7 | exact fun _ => rfl), (by first | exact v8 | exact fun _ => rfl), (by first | exact v9 | exact fun _ => rfl)⟩, ⟨fun _ => rfl, c4, c5, c7, c8, c9, c10, c11⟩, ⟨x0, x1, x2, x3, x4⟩⟩
      · -- 3
        obtain rfl : b3 = false := hun
        obtain rfl : b2 = true := hdep _ rfl ⟨2, .data⟩ (by simp) rfl
        obtain rfl := v2 rfl
        refine wpOpIn_step rfl (fun K' hK => ?_)
        go_simp
        refine ⟨trivial, fun _ => by omega, ?_⟩
        refine (CallsIn.inRound l (callsIn_wide.2 (HIX.out _))).mono ?_
        rintro e X' ⟨rfl, rfl⟩
        refine hK _ _ ⟨_, _, _, true, _, _, _, _, _, _, _, _, _, _, _, _, _, _, _, _, _, _, _, rfl, rfl, ⟨(by first | exact v0 | exact fun _ => rfl), (by first | exact v1 | exact fun _ => rfl), (by first | exact v2 | exact fun _ => rfl), fun _ => rfl, (by first | exact v4 | exact fun _ => rfl), (by first | exact v5 | exact fun _ => rfl), (by first | exact v6 | exact fun _ => rfl), (by first | exact v7 | exact fun _ => rfl), (by first | exact v8 | exact fun _ => rfl), (by first | exact v9 | exact fun _ => rfl)⟩, ⟨fun _ => rfl, fun h => ⟨(c4 h).1, rfl⟩, c5, fun h => ⟨(c7 h).1, rfl⟩, c8, c9, c10, c11⟩, ⟨x0, x1, x2, x3, x4⟩⟩
      · -- 4
        obtain rfl : b4 = false := hun
        obtain rfl : b1 = true := hdep _ rfl ⟨1, .data⟩ (by simp) rfl
        obtain rfl : b3 = true := hdep _ rfl ⟨3, .data⟩ (by simp) rfl
        obtain rfl := v1 rfl
        obtain rfl := v3 rfl
        have hj4' : (j : Int) < 4 := by omega
        refine wpOpIn_step rfl (fun K' hK => ?_)
        go_simp
        refine hK _ _ ⟨_, _, _, _, true, _, _, _, _, _, _, _, _, _, _, _, _, _, _, _, _, _, _, rfl, rfl, ⟨(by first | exact v0 | exact fun _ => rfl), (by first | exact v1 | exact fun _ => rfl), (by first | exact v2 | exact fun _ => rfl), (by first | exact v3 | exact fun _ => rfl), fun _ => rfl, (by first | exact v5 | exact fun _ => rfl), (by first | exact v6 | exact fun _ => rfl), (by first | exact v7 | exact fun _ => rfl), (by first | exact v8 | exact fun _ => rfl), (by first | exact v9 | exact fun _ => rfl)⟩, ⟨c3, fun _ => ⟨rfl, rfl⟩, fun _ => rfl, c7, c8, c9, c10, c11⟩, ⟨x0, x1, x2, x3, x4⟩⟩
      · -- 5
        obtain rfl : b5 = false := hun
        obtain rfl : b4 = true := hdep _ rfl ⟨4, .data⟩ (by simp) rfl
        obtain rfl := v4 rfl
        have q8 : b8 = false := by
          cases b8 with
          | false => rfl
          | true => have := (c8 rfl).1; cases this
        obtain rfl := x0 q8
        have hx : W.drew.cell? ⟨gi, j, none⟩ = some vj := hcW
        refine wpOpIn_step rfl (fun K' hK => ?_)
        go_simp
        refine hK _ _ ⟨_, _, _, _, _, true, _, _, _, _, _, _, _, _, _, _, _, _, _, _, _, _, _, rfl, rfl, ⟨(by first | exact v0 | exact fun _ => rfl), (by first | exact v1 | exact fun _ => rfl), (by first | exact v2 | exact fun _ => rfl), (by first | exact v3 | exact fun _ => rfl), (by first | exact v4 | exact fun _ => rfl), fun _ => rfl, (by first | exact v6 | exact fun _ => rfl), (by first | exact v7 | exact fun _ => rfl), (by first | exact v8 | exact fun _ => rfl), (by first | exact v9 | exact fun _ => rfl)⟩, ⟨c3, c4, fun _ => rfl, c7, fun h => ⟨rfl, (c8 h).2⟩, c9, c10, c11⟩, ⟨x0, x1, x2, x3, x4⟩⟩
      · -- 6
        obtain rfl : b6 = false := hun
        refine wpOpIn_step rfl (fun K' hK => ?_)
        go_simp
        refine hK _ _ ⟨_, _, _, _, _, _, true, _, _, _, _, _, _, _, _, _, _, _, _, _, _, _, _, rfl, rfl, ⟨(by first | exact v0 | exact fun _ => rfl), (by first | exact v1 | exact fun _ => rfl), (by first | exact v2 | exact fun _ => rfl), (by first | exact v3 | exact fun _ => rfl), (by first | exact v4 | exact fun _ => rfl), (by first | exact v5 | exact fun _ => rfl), fun _ => rfl, (by first | exact v7 | exact fun _ => rfl), (by first | exact v8 | exact fun _ => rfl), (by first | exact v9 | exact fun _ => rfl)⟩, ⟨c3, c4, c5, fun h => ⟨rfl, (c7 h).2⟩, c8, c9, c10, c11⟩, ⟨x0, x1, x2, x3, x4⟩⟩
      · -- 7
        obtain rfl : b7 = false := hun
        obtain rfl : b6 = true := hdep _ rfl ⟨6, .data⟩ (by simp) rfl
        obtain rfl : b3 = true := hdep _ rfl ⟨3, .chain⟩ (by simp) rfl
        obtain rfl := v6 rfl
        refine wpOpIn_step rfl (fun K' hK => ?_)
        go_simp
        refine ⟨trivial, fun _ => by omega, ?_⟩
        refine (CallsIn.inRound l (callsIn_wide.2 (HSX.out _))).mono ?_
        rintro e X' ⟨rfl, rfl⟩
        refine hK _ _ ⟨_, _, _, _, _, _, _, true, _, _, _, _, _, _, _, _, _, _, _, _, _, _, _, rfl, rfl, ⟨(by first | exact v0 | exact fun _ => rfl), (by first | exact v1 | exact fun _ => rfl), (by first | exact v2 | exact fun _ => rfl), (by first | exact v3 | exact fun _ => rfl), (by first | exact v4 | exact fun _ => rfl), (by first | exact v5 | exact fun _ => rfl), (by first | exact v6 | exact fun _ => rfl), fun _ => rfl, (by first | exact v8 | exact fun _ => rfl), (by first | exact v9 | exact fun _ => rfl)⟩, ⟨c3, c4, c5, fun _ => ⟨rfl, rfl⟩, fun h => ⟨(c8 h).1, rfl⟩, c9, c10, c11⟩, ⟨x0, x1, x2, x3, x4⟩⟩
      · -- 8
        obtain rfl : b8 = false := hun
        obtain rfl : b5 = true := hdep _ rfl ⟨5, .data⟩ (by simp) rfl
        obtain rfl : b7 = true := hdep _ rfl ⟨7, .data⟩ (by simp) rfl
        obtain rfl := v5 rfl
        obtain rfl := v7 rfl
        obtain rfl := x0 rfl
        refine wpOpIn_step rfl (fun K' hK => ?_)
        go_simp
        refine ⟨trivial, fun _ => by omega, ?_⟩
        refine (CallsIn.inRound l (callsIn_wide.2 (HLT.out _))).mono ?_
        rintro e X' ⟨rfl, rfl⟩
        refine hK _ _ ⟨_, _, _, _, _, _, _, _, true, _, _, _, _, _, _, _, _, _, _, _, _, _, _, rfl, rfl, ⟨(by first | exact v0 | exact fun _ => rfl), (by first | exact v1 | exact fun _ => rfl), (by first | exact v2 | exact fun _ => rfl), (by first | exact v3 | exact fun _ => rfl), (by first | exact v4 | exact fun _ => rfl), (by first | exact v5 | exact fun _ => rfl), (by first | exact v6 | exact fun _ => rfl), (by first | exact v7 | exact fun _ => rfl), fun _ => hfv, (by first | exact v9 | exact fun _ => rfl)⟩, ⟨c3, c4, c5, c7, fun _ => ⟨rfl, rfl⟩, fun _ => rfl, c10, c11⟩, ⟨fun h => (by cases h), fun _ _ => rfl, fun h _ => (by have := c9 h; cases this), fun h _ => (by have := c9 (c10 h).1; cases this), fun h => (by have := c9 (c10 (c11 h)).1; cases this)⟩⟩
      · -- 9
        obtain rfl : b9 = false := hun
        obtain rfl : b8 = true := hdep _ rfl ⟨8, .data⟩ (by simp) rfl
        have e39 := v8 rfl
        rw [← hfv] at e39
        subst e39
        have HF := Lib.hid hfv
        have V8 := Lib.hid v8
        clear hfv v8
        obtain rfl := x1 rfl rfl
        refine wpOpIn_step rfl (fun K' hK => ?_)
        go_simp
        refine hK _ _ ⟨_, _, _, _, _, _, _, _, _, true, _, _, _, _, _, _, _, _, _, _, _, _, _, rfl, rfl, ⟨(by first | exact v0 | exact fun _ => rfl), (by first | exact v1 | exact fun _ => rfl), (by first | exact v2 | exact fun _ => rfl), (by first | exact v3 | exact fun _ => rfl), (by first | exact v4 | exact fun _ => rfl), (by first | exact v5 | exact fun _ => rfl), (by first | exact v6 | exact fun _ => rfl), (by first | exact v7 | exact fun _ => rfl), (by first | exact V8.out | exact fun _ => rfl), fun _ => rfl⟩, ⟨c3, c4, c5, c7, c8, fun _ => rfl, fun h => ⟨rfl, (c10 h).2⟩, c11⟩, ⟨fun h => (by cases h), fun _ h => (by cases h), fun _ _ => (by rw [← HF.out]; first | done | rfl), fun h _ => (by have := (c10 h).1; cases this), fun h => (by have := (c10 (c11 h)).1; cases this)⟩⟩
      · -- 10
        obtain rfl : b10 = false := hun
        obtain rfl : b0 = true := hdep _ rfl ⟨0, .data⟩ (by simp) rfl
        obtain rfl : b9 = true := hdep _ rfl ⟨9, .data⟩ (by simp) rfl
        have e31 := v0 rfl
        have e40 := v9 rfl
        subst t31
        subst t40
        obtain rfl := x2 rfl rfl
        have hfo : fv.oneCell' = true := by rw [← hfv]; rfl
        have hd : W.drew.ownsRow (w2.heap.size + 1) IT 1 pv ps.length (ps.map funcV) := HROW.out
        have hcn := cell_one_new (W.drew.alloc (.cells #[vj] WT)) fv IT
        simp only [World.size_alloc] at hcn
        have hws := hB.size
        refine wpOpIn_step rfl (fun K' hK => ?_)
        refine (if_pos (show Region.wanted _ _ = true from rfl)).mpr ?_
        refine wpIn_append_op _ (.tmp 10) (.tmp 19) LTi rfl (w2.heap.size + 1) IT i0 .nilFunc 1 8 Try.underlying130 hi0 hz0 hz1 hz2 rfl (by decide) pv ps.length (ps.map funcV) rfl ((hd.alloc _).alloc _) ⟨W.heap.size + 1, 0, none⟩ 1 1 [fv] rfl rfl hcn (fun u hu => by rw [List.mem_singleton.1 hu]; exact hfo) (by unfold maxLen; omega) (by omega) (by simp only [World.size_alloc]; show _ ≤ W.heap.size + 1 + 1; omega) ?_
        intro v' X' hown' hgr' _
        refine hK _ _ ⟨_, _, _, _, _, _, _, _, _, _, true, _, _, _, _, _, _, _, _, _, _, _, _, rfl, rfl, ⟨(by first | exact v0 | exact fun _ => rfl), (by first | exact v1 | exact fun _ => rfl), (by first | exact v2 | exact fun _ => rfl), (by first | exact v3 | exact fun _ => rfl), (by first | exact v4 | exact fun _ => rfl), (by first | exact v5 | exact fun _ => rfl), (by first | exact v6 | exact fun _ => rfl), (by first | exact v7 | exact fun _ => rfl), (by first | exact v8 | exact fun _ => rfl), (by first | exact v9 | exact fun _ => rfl)⟩, ⟨c3, c4, c5, c7, c8, c9, fun _ => ⟨rfl, rfl⟩, fun _ => rfl⟩, ⟨fun h => (by have := c8 ; exact absurd h (by simp_all)), fun _ h => (by cases h), fun _ h => (by cases h), fun _ _ => (by rw [hS3]; exact ⟨hown', hgr'⟩), fun h => (by have := c11 h; cases this)⟩⟩
      · -- 11
        obtain rfl : b11 = false := hun
        obtain rfl : b10 = true := hdep _ rfl ⟨10, .data⟩ (by simp) rfl
        have h3 := x3 rfl rfl
        have h3' := h3
        rw [hS3] at h3'
        have hbW : Boxed W.drew (w2.heap.size + 1) LTi pv := HBX.out
        have hbX : Boxed X (w2.heap.size + 1) LTi pv := (((hbW.alloc _).alloc _).kept h3'.2 (HBX.out.not_row (by decide) HROW.out))
        obtain ⟨g', cap', rfl⟩ := ownsRow_succ h3'.1
        have hx := hbX.cell
        have hxf := hbX.frozen
        refine wpOpIn_step rfl (fun K' hK => ?_)
        go_simp
        refine hK _ _ ⟨_, _, _, _, _, _, _, _, _, _, _, true, _, _, _, _, _, _, _, _, _, _, _, rfl, rfl, ⟨(by first | exact v0 | exact fun _ => rfl), (by first | exact v1 | exact fun _ => rfl), (by first | exact v2 | exact fun _ => rfl), (by first | exact v3 | exact fun _ => rfl), (by first | exact v4 | exact fun _ => rfl), (by first | exact v5 | exact fun _ => rfl), (by first | exact v6 | exact fun _ => rfl), (by first | exact v7 | exact fun _ => rfl), (by first | exact v8 | exact fun _ => rfl), (by first | exact v9 | exact fun _ => rfl)⟩, ⟨c3, c4, c5, c7, c8, c9, c10, fun _ => rfl⟩, ⟨fun h => (by have h8 := c9 (c10 rfl).1; rw [h] at h8; cases h8), fun _ h => (by have h9 := (c10 rfl).1; rw [h] at h9; cases h9), fun _ h => (by cases h), fun _ h => (by cases h), fun _ => ⟨X, h3, rfl⟩⟩⟩
    case rdone =>
      rintro listed a X ⟨b0, b1, b2, b3, b4, b5, b6, b7, b8, b9, b10, b11, t31, t32, t33, t34, t35, t36, t37, t38, t39, t40, t41, rfl, rfl, -, -, ⟨-, -, -, -, x4⟩⟩ hall
      have q0 : b0 = true := hall 0 _ rfl (fun e he => by simp at he)
      have q1 : b1 = true := hall 1 _ rfl (fun e he => by simp at he)
      have q2 : b2 = true := hall 2 _ rfl (fun e he => by simp at he)
      have q6 : b6 = true := hall 6 _ rfl (fun e he => by simp at he)
      have q3 : b3 = true := hall 3 _ rfl (by
        intro e he _
        simp at he
        rcases he with rfl
        all_goals first | exact q0 | exact q1 | exact q2 | exact q6)
      have q4 : b4 = true := hall 4 _ rfl (by
        intro e he _
        simp at he
        rcases he with rfl | rfl
        all_goals first | exact q0 | exact q1 | exact q2 | exact q6 | exact q3)
      have q5 : b5 = true := hall 5 _ rfl (by
        intro e he _
        simp at he
        rcases he with rfl
        all_goals first | exact q0 | exact q1 | exact q2 | exact q6 | exact q3 | exact q4)
      have q7 : b7 = true := hall 7 _ rfl (by
        intro e he _
        simp at he
        rcases he with rfl | rfl
        all_goals first | exact q0 | exact q1 | exact q2 | exact q6 | exact q3 | exact q4 | exact q5)
      have q8 : b8 = true := hall 8 _ rfl (by
        intro e he _
        simp at he
        rcases he with rfl | rfl | rfl
        all_goals first | exact q0 | exact q1 | exact q2 | exact q6 | exact q3 | exact q4 | exact q5 | exact q7)
      have q9 : b9 = true := hall 9 _ rfl (by
        intro e he _
        simp at he
        rcases he with rfl
        all_goals first | exact q0 | exact q1 | exact q2 | exact q6 | exact q3 | exact q4 | exact q5 | exact q7 | exact q8)
      have q10 : b10 = true := hall 10 _ rfl (by
        intro e he _
        simp at he
        rcases he with rfl | rfl | rfl
        all_goals first | exact q0 | exact q1 | exact q2 | exact q6 | exact q3 | exact q4 | exact q5 | exact q7 | exact q8 | exact q9)
      have q11 : b11 = true := hall 11 _ rfl (by
        intro e he _
        simp at he
        rcases he with rfl | rfl | rfl | rfl | rfl | rfl | rfl | rfl | rfl | rfl | rfl | rfl | rfl
        all_goals first | exact q0 | exact q1 | exact q2 | exact q6 | exact q3 | exact q4 | exact q5 | exact q7 | exact q8 | exact q9 | exact q10)
      obtain ⟨X0, h3, rfl⟩ := x4 q11
      rw [hS3] at h3
      obtain ⟨hown3, hgr3⟩ := h3
      have hws := hB.size
      have hk' : ps.length = pre.length := HK.out
      have hbW : Boxed W.drew (w2.heap.size + 1) LTi pv := HBX.out
      have hnr := HBX.out.not_row (by decide) HROW.out
      have hbX : Boxed X0 (w2.heap.size + 1) LTi pv := ((hbW.alloc _).alloc _).kept hgr3 hnr
      have hb2' : Below (w2.heap.size + 1) W ((W.drew.alloc (.cells #[vj] WT)).alloc (.cells #[fv] IT)) := (((Below.refl _ W).drew.alloc (by show _ ≤ W.heap.size; omega) _).alloc (by simp only [World.size_alloc]; show _ ≤ W.heap.size + 1; omega) _)
      have hrowb : ∀ j, pv.ownBlock = some j → w2.heap.size + 1 ≤ j ∧ ∃ cs r, W.heap[j]? = some (.cells cs IT r) := by
        intro j ej
        rcases HROW.out.2 with ⟨rfl, _⟩ | ⟨g1', cap1', cur1, rfl, hg1, hg2, _⟩
        · cases ej
        · simp [Value.ownBlock] at ej
          subst ej
          exact ⟨hg1, _, _, hg2⟩
      have hbel : Below (w2.heap.size + 1) W (X0.setCell ⟨w2.heap.size + 1, 0, none⟩ t41) := (hb2'.grown hgr3 (by simp only [World.size_alloc]; show _ ≤ W.heap.size + 1 + 1; omega) (fun j ej => (hrowb j ej).1)).setCell (p := ⟨w2.heap.size + 1, 0, none⟩) (Nat.le_refl _) _
      have hko : KeepsOthers W (X0.setCell ⟨w2.heap.size + 1, 0, none⟩ t41) := by
        refine (KeepsOthers.drew W).trans (KeepsOthers.trans ?_ (KeepsOthers.setCell _ _ _))
        refine (KeepsOthers.alloc _ _).trans ((KeepsOthers.alloc _ _).trans (KeepsOthers.of_grownBy hgr3 fun j o ej hj => ?_))
        obtain ⟨hj1, cs, r, hjc⟩ := hrowb j ej
        have hlt : j < W.heap.size := (Array.getElem?_eq_some_iff.1 hjc).1
        rw [Below.heap_alloc _ _ _ (by simp only [World.size_alloc]; show j < W.heap.size + 1; omega), Below.heap_alloc _ _ _ (by show j < W.heap.size; omega)] at hj
        rw [show W.drew.heap[j]? = W.heap[j]? from rfl, hjc] at hj
        cases hj; rfl
      have hgetbox : ∀ (Bx : Nat) (v : Value), Boxed ((W.drew.alloc (.cells #[vj] WT)).alloc (.cells #[fv] IT)) Bx WT v → Bx < W.heap.size + 1 → Boxed (X0.setCell ⟨w2.heap.size + 1, 0, none⟩ t41) Bx WT v := by
        intro Bx v hv hlt
        have hne : Bx ≠ w2.heap.size + 1 := by
          rintro rfl
          have h1 : Boxed ((W.drew.alloc (.cells #[vj] WT)).alloc (.cells #[fv] IT)) (w2.heap.size + 1) LTi pv := (hbW.alloc _).alloc _
          unfold Boxed at h1 hv
          rw [h1] at hv
          cases hv
        have hnb : some Bx ≠ pv.ownBlock := by
          intro e
          obtain ⟨hj1, cs, r, hjc⟩ := hrowb Bx e.symm
          unfold Boxed at hv
          have hlt : Bx < W.heap.size := (Array.getElem?_eq_some_iff.1 hjc).1
          rw [Below.heap_alloc _ _ _ (by simp only [World.size_alloc]; show Bx < W.heap.size + 1; omega), Below.heap_alloc _ _ _ (by show Bx < W.heap.size; omega), show W.drew.heap[Bx]? = W.heap[Bx]? from rfl, hjc] at hv
          cases hv
        exact (hv.kept hgr3 hnb).other hne _
      gi_wp2
      refine ⟨hko.from _, ⟨hbel, hko.from _⟩, ⟨ps ++ [⟨gf, #[.pointer (some ⟨W.heap.size, 0, none⟩)], imgX zs x⟩], by simp [hk'], ?_, ⟨t41, hbX.set _, ?_, trivial⟩, ?_⟩, hB.trans (hbel.mono (by omega))⟩
      · have := HCAT.out
        unfold cat at this ⊢
        simp [this]
      · have := hown3.kept (grownBy_setCell' X0 (w2.heap.size + 1) t41) (.inr (hbX.not_row (by decide) hown3).symm)
        rw [List.map_append, List.length_append]
        rw [← hfv] at this
        exact this
      · intro p hp
        rcases List.mem_append.1 hp with hp | hp
        · obtain ⟨Bx, sv, L, e1, e2, e3, e4, e5⟩ := HPA.out p hp
          refine ⟨Bx, sv, L, e1, e2, hgetbox Bx sv (((show Boxed W.drew Bx WT sv from e3).alloc _).alloc _) ?_, e4, e5⟩
          have := e3.lt
          omega
        · obtain rfl := List.mem_singleton.1 hp
          exact ⟨W.heap.size, vj, _, rfl, by omega, hgetbox W.heap.size vj ((Boxed.new W.drew WT vj).alloc _) (by omega), HGV.out, HIW.out⟩
  case done =>
    rintro D W hD ⟨⟨ps, hps, hcat, ⟨pv, hbx, hrow, _⟩, hpa⟩, hB⟩ hK
    have hWs := hB.size
    have hDlt : D < W.heap.size := (Array.getElem?_eq_some_iff.1 hK).1
    obtain ⟨a, cap0, b, rfl, ha, hb, hc⟩ := owns_slice hrow (by omega)
    have hx := hbx.cell
    have hBW : Below w2.heap.size w2 W := hBv.trans (hB.mono (by omega))
    have hlet : letL (putX zs L) = true := letL_putX zs L HZ.out
    have hcl : (cat ps).length ≤ 60 * 60 := by
      rw [hcat]
      refine Nat.le_trans (putX_len zs L HZ.out) (Nat.mul_le_mul (by rw [HKL.out]; exact hk60) (Nat.le_refl _))
    have hrd := reduced_in (n - 1) (by omega) a b 0 cap0 ps W ha hb
      (fun i h => by rw [Nat.zero_add, hc i (by simpa using h)]; simp [funcV])
      (fun p hp => by
        obtain ⟨B, sv, Lp, e1, e2, e3, e4, e5⟩ := hpa p hp
        refine ⟨?_, e4.2⟩
        have hlb : p.lb = #[.pointer (some ⟨B, 0, none⟩)] := e1
        rw [hlb]
        exact e4.1 W B W.heap.size e3.lt (Nat.le_refl _) e3.cell ((e5.below hB).mono (by omega)))
      (by omega) (by rw [hps, HKL.out]; omega)
    rw [hcat] at hrd
    have HRD := Lib.hid hrd
    have HK := Lib.hid hK
    clear hrd hcat hpa hrow hbx hc ha hK hps
    gi_wp2_with fail
    refine ⟨trivial, fun _ => by omega, ?_⟩
    refine HRD.out.mono ?_
    rintro e w4 ⟨g4, m, cap4, rfl, hm, hown, hb4⟩
    have hK4 : w4.heap[D]? = some (.deferred (some [])) := (hb4.block _ hDlt).trans HK.out
    have Hm := Lib.hid hm
    have HO := Lib.hid hown
    have HK4 := Lib.hid hK4
    clear hm hown hK4
    gi_wp2
    refine ⟨by simp, .inl ⟨_, _, rfl, run_takeDeferred HK4.out, ?_⟩⟩
    refine ⟨.slice (some ⟨g4, 0, none⟩) m cap4, by simp [results, Try.f70, go_sem], g4, m, cap4, rfl, Hm.out, ownsRow_base (ownsRow_putObj HO.out _ HK4.out rfl) (by omega), ?_⟩
    exact (hBW.trans (hb4.mono (by omega))).trans (belowK_b (w := w2) (Nat.le_refl _) w4 D _ _ (by omega) HK4.out rfl rfl)

end Go.Proofs.Ytebgcebjlbhjjab

/- Commutators, parity, cores and putting, over lists of letters. -/

namespace Go.Proofs.Ytebgcebjlbhjjab
open Go.RowKit

/-! ### Commutators -/
theorem comm_back {a b : List UInt8} (ha : letL a = true) (hb : letL b = true) : backL (commL a b) = commL b a := by
  unfold commL
  rw [backL_append, backL_append, backL_append, back_back a ha, back_back b hb]
  simp
theorem comm_let {a b : List UInt8} (ha : letL a = true) (hb : letL b = true) : letL (commL a b) = true := by
  unfold commL
  rw [letL_append, letL_append, letL_append, ha, hb, letL_back a ha, letL_back b hb]; rfl
theorem comm_sg (i : Nat) {a b : List UInt8} (ha : letL a = true) (hb : letL b = true) : sgL i (commL a b) = 0 := by
  unfold commL
  rw [sgL_append, sgL_append, sgL_append, sgL_back i a ha, sgL_back i b hb]; omega
/-- A commutator ahead of the product the other way. -/
theorem comm_times {a b : List UInt8} (ha : letL a = true) (hb : letL b = true) : redL [] (commL a b ++ (b ++ a)) = redL [] (a ++ b) := by
  unfold commL
  rw [show a ++ b ++ backL a ++ backL b ++ (b ++ a) = (a ++ b ++ backL a ++ backL b ++ b) ++ a by simp, redL_append, red_inv2 hb, ← redL_append, red_inv2 ha]
theorem sums_comm {a b : List UInt8} (ha : letL a = true) (hb : letL b = true) : sumsL (redL [] (commL a b)) = [0, 0, 0, 0] := by
  have hl := letL_red2 _ [] (comm_let ha hb) rfl
  have h4 := (sumsL_inv _ hl).1
  refine List.ext_getElem (by rw [h4]; rfl) fun i hi hj => ?_
  rw [sums_get _ hl, sgL_red i _ [] (comm_let ha hb), comm_sg i ha hb]
  have hj4 : i < 4 := hj
  rcases (show i = 0 ∨ i = 1 ∨ i = 2 ∨ i = 3 by omega) with rfl | rfl | rfl | rfl <;> rfl
/-! ### Parity -/
theorem step_parity (l : List UInt8) (c : UInt8) : ∃ k, (redStep l c).length + 2 * k = l.length + 1 := by
  unfold redStep
  split
  · refine ⟨1, ?_⟩
    rename_i h
    cases l with
    | nil => simp at h
    | cons a r => simp
  · exact ⟨0, by simp⟩
theorem red_parity : ∀ (s l : List UInt8), ∃ k, (redL l s).length + 2 * k = l.length + s.length
  | [], l => ⟨0, by simp [redL_nil]⟩
  | c :: s, l => by
    obtain ⟨k, hk⟩ := step_parity l c
    obtain ⟨j, hj⟩ := red_parity s (redStep l c)
    refine ⟨k + j, ?_⟩
    have e : redL l (c :: s) = redL (redStep l c) s := rfl
    rw [e, List.length_cons]; omega
/-! ### Cores -/
theorem coreF_core : ∀ (m : Nat) (l : List UInt8), l.length ≤ m → coreC (coreF m l) = false
  | 0, l, h => by
    have : l = [] := List.length_eq_zero_iff.1 (by omega)
    subst this
    rfl
  | m + 1, l, h => by
    rw [coreF]
    split
    · rename_i hc
      have h1 : 1 < l.length := by unfold coreC at hc; simp only [Bool.and_eq_true, decide_eq_true_eq] at hc; exact hc.1
      exact coreF_core m _ (by rw [core_len]; omega)
    · rename_i hc; simpa using hc
theorem core_core (l : List UInt8) : coreL (coreL l) = coreL l := coreF_false (coreF_core l.length l (Nat.le_refl _)) _
theorem core_le (l : List UInt8) : (coreL l).length ≤ l.length := coreF_len _ _
theorem core_ends {l : List UInt8} (hl : letL l = true) (hc : coreC l = true) : ∃ c, letB c = true ∧ l = [turnB c] ++ l.tail.dropLast ++ [c] := by
  have h1 : 1 < l.length := by unfold coreC at hc; simp only [Bool.and_eq_true, decide_eq_true_eq] at hc; exact hc.1
  obtain ⟨p, c, rfl⟩ := last_split l (by omega)
  cases p with
  | nil => simp at h1
  | cons x q =>
    have hx : x = turnB c := by
      unfold coreC at hc
      simp only [Bool.and_eq_true, decide_eq_true_eq] at hc
      have h2 := hc.2
      have e : (x :: q ++ [c]).getLast? = some c := List.getLast?_concat
      rw [e] at h2
      simpa using h2
    refine ⟨c, letL_get _ hl ((x :: q ++ [c]).length - 1) (by simp) |> fun h => by simpa using h, ?_⟩
    subst hx
    simp
theorem coreF_word : ∀ (m : Nat) (l : List UInt8), letL l = true → noC l → letL (coreF m l) = true ∧ noC (coreF m l)
  | 0, l, h1, h2 => ⟨h1, h2⟩
  | m + 1, l, h1, h2 => by
    rw [coreF]
    split
    · rename_i hc
      obtain ⟨c, _, e⟩ := core_ends h1 hc
      refine coreF_word m _ (letL_core l h1) ?_
      rw [e] at h2
      intro p x y q h3
      refine h2 (turnB c :: p) x y (q ++ [c]) ?_
      rw [h3]; simp
    · exact ⟨h1, h2⟩
theorem core_word {l : List UInt8} (h : wordB l = true) : wordB (coreL l) = true := by
  obtain ⟨h1, h2, h3⟩ := (wordB_iff _).1 h
  obtain ⟨h4, h5⟩ := coreF_word l.length l h2 ((red_iff _).1 h3)
  refine (wordB_iff _).2 ⟨by have := core_le l; omega, h4, (red_iff _).2 h5⟩
theorem coreF_sg (i : Nat) : ∀ (m : Nat) (l : List UInt8), letL l = true → sgL i (coreF m l) = sgL i l
  | 0, l, h1 => rfl
  | m + 1, l, h1 => by
    rw [coreF]
    split
    · rename_i hc
      obtain ⟨c, hcl, e⟩ := core_ends h1 hc
      have h2 := coreF_sg i m _ (letL_core l h1)
      rw [h2]
      have h3 : sgL i l = sgL i ([turnB c] ++ l.tail.dropLast ++ [c]) := congrArg _ e
      rw [sgL_append, sgL_append, sgL_turn i hcl] at h3
      omega
    · rfl
theorem sums_core {l : List UInt8} (h : letL l = true) (h2 : letL (coreL l) = true) : sumsL (coreL l) = sumsL l := sums_eq h2 h fun i _ => coreF_sg i _ l h
/-! ### Putting -/
theorem img_turn (zs : List ByteArray) (hz : ∀ z ∈ zs, wordB z.data.toList = true) {c : UInt8} (hc : letB c = true) : imgL zs (turnB c) = backL (imgL zs c) := by
  have hl : letL (zs.getD (idxB c) ByteArray.empty).data.toList = true := by
    rw [List.getD_eq_getElem?_getD]
    cases h : zs[idxB c]? with
    | none => rfl
    | some z => exact ((wordB_iff _).1 (hz z (List.mem_of_getElem? h))).2.1
  have hi := (sg_turn hc).1
  unfold imgL
  rw [hi]
  have h := (letB_iff c).1 hc
  rcases h with h | h
  · have := turnB_hi c h.1
    rw [if_pos (by omega), if_neg (by omega)]
  · have := turnB_lo c (by omega)
    rw [if_neg (by omega), if_pos (by omega), back_back _ hl]
theorem putL_append (zs : List ByteArray) (a b : List UInt8) : putL zs (a ++ b) = putL zs a ++ putL zs b := by simp [putL]
theorem put_back (zs : List ByteArray) (hz : ∀ z ∈ zs, wordB z.data.toList = true) : ∀ s : List UInt8, letL s = true → putL zs (backL s) = backL (putL zs s)
  | [], _ => rfl
  | c :: s, h => by
    rw [letL_cons, Bool.and_eq_true] at h
    have e : backL (c :: s) = backL s ++ [turnB c] := by simp [backL]
    have e1 : putL zs [turnB c] = imgL zs (turnB c) := by simp [putL]
    have e2 : putL zs (c :: s) = imgL zs c ++ putL zs s := by simp [putL]
    rw [e, putL_append, put_back zs hz s h.2, e1, img_turn zs hz h.1, e2, backL_append]
def abcd : List ByteArray := [{ data := #[97] }, { data := #[98] }, { data := #[99] }, { data := #[100] }]
theorem abcd_four : fourB abcd = true := by decide +kernel
theorem abcd_tab : ∀ n : Fin 256, letB (UInt8.ofNat n.val) = true → imgL abcd (UInt8.ofNat n.val) = [UInt8.ofNat n.val] := by decide +kernel
theorem abcd_img {c : UInt8} (h : letB c = true) : imgL abcd c = [c] := by
  have := abcd_tab ⟨c.toNat, c.toNat_lt⟩
  simp only [UInt8.ofNat_toNat] at this
  exact this h
theorem abcd_put : ∀ s : List UInt8, letL s = true → putL abcd s = s
  | [], _ => rfl
  | c :: s, h => by
    rw [letL_cons, Bool.and_eq_true] at h
    have e2 : putL abcd (c :: s) = imgL abcd c ++ putL abcd s := by simp [putL]
    rw [e2, abcd_img h.1, abcd_put s h.2]; rfl
theorem put_let (zs : List ByteArray) (hz : ∀ z ∈ zs, wordB z.data.toList = true) (s : List UInt8) : letL (putL zs s) = true := (putX_eq zs s hz).2

/-! ### Words of letters that reduce to few -/
theorem word_of_red {s : List UInt8} (hl : letL s = true) (h : (redL [] s).length ≤ 60) : wordB (redL [] s) = true := (wordB_iff _).2 ⟨h, letL_red2 s [] hl rfl, red_red s⟩
theorem word_back {s : List UInt8} (h : wordB s = true) : wordB (backL s) = true := by
  obtain ⟨h1, h2, h3⟩ := (wordB_iff _).1 h
  exact (wordB_iff _).2 ⟨by rw [backL_length]; exact h1, letL_back s h2, red_back s h2 h3⟩

end Go.Proofs.Ytebgcebjlbhjjab

/- The algebra of sums: functionals, products, maps of words, all up to the order of terms. -/

namespace Go.Proofs.Ytebgcebjlbhjjab
open Go.RowKit

theorem plain_is : ∀ ts : List Tm, plainZ ts = linT (fun _ => 1) ts
  | [] => rfl
  | t :: r => by
    have := plain_is r
    unfold plainZ at *
    rw [List.map_cons, List.sum_cons, linT, this]; omega
theorem linT_scl (f : ByteArray → Int) (c : Int) : ∀ ts, linT f (scaleT c ts) = c * linT f ts
  | [] => by simp [scaleT, linT]
  | t :: r => by
    have ih := linT_scl f c r
    unfold scaleT at *
    rw [List.map_cons, linT, linT, ih, Int.mul_add, Int.mul_assoc]
theorem linT_add2 (f g : ByteArray → Int) : ∀ ts, linT (fun s => f s + g s) ts = linT f ts + linT g ts
  | [] => by simp [linT]
  | t :: r => by rw [linT, linT, linT, linT_add2 f g r, Int.mul_add]; omega
theorem linT_mul (c : Int) (f : ByteArray → Int) : ∀ ts, linT (fun s => c * f s) ts = c * linT f ts
  | [] => by simp [linT]
  | t :: r => by rw [linT, linT, linT_mul c f r, Int.mul_add, Int.mul_left_comm]
theorem linT_zero : ∀ ts, linT (fun _ => 0) ts = 0
  | [] => rfl
  | t :: r => by rw [linT, linT_zero r]; simp
theorem linT_congr {f g : ByteArray → Int} : ∀ {ts : List Tm}, (∀ t ∈ ts, f t.s = g t.s) → linT f ts = linT g ts
  | [], _ => rfl
  | t :: r, h => by rw [linT, linT, h t (by simp), linT_congr (ts := r) fun u hu => h u (by simp [hu])]
/-- In whichever order. -/
theorem linT_swap (F : ByteArray → ByteArray → Int) (y : List Tm) : ∀ x : List Tm, linT (fun s => linT (fun r => F s r) y) x = linT (fun r => linT (fun s => F s r) x) y
  | [] => by simp only [linT]; exact (linT_zero y).symm
  | t :: x => by
    rw [linT, linT_swap F y x]
    have e : (fun r => linT (fun s => F s r) (t :: x)) = fun r => t.c * F t.s r + linT (fun s => F s r) x := by funext r; rw [linT]
    rw [e, linT_add2, linT_mul]
def hitB (q s : ByteArray) : Int := if s = q then 1 else 0
theorem coef_lin (q : ByteArray) : ∀ ts, coefAt q ts = linT (hitB q) ts
  | [] => rfl
  | t :: r => by
    rw [coefAt, linT, coef_lin q r]
    unfold hitB
    split <;> omega
def mulB (s r : ByteArray) : ByteArray := bstr (redL [] (s.data.toList ++ r.data.toList))
theorem lin_row (f : ByteArray → Int) (t : Tm) : ∀ y : List Tm, linT f (y.map (pairT t)) = t.c * linT (fun r => f (mulB t.s r)) y
  | [] => by simp [linT]
  | u :: y => by
    rw [List.map_cons, linT, linT, lin_row f t y, Int.mul_add]
    show t.c * u.c * f (mulB t.s u.s) + _ = _
    rw [Int.mul_assoc]
theorem lin_pairs (f : ByteArray → Int) (y : List Tm) : ∀ x : List Tm, linT f (pairsT x y) = linT (fun s => linT (fun r => f (mulB s r)) y) x
  | [] => rfl
  | t :: x => by
    have e : pairsT (t :: x) y = y.map (pairT t) ++ pairsT x y := by unfold pairsT; rw [List.flatMap_cons]
    rw [e, linT_append, lin_row, lin_pairs f y x, linT]
theorem lin_map (f : ByteArray → Int) (g : List UInt8 → List UInt8) : ∀ x : List Tm, linT f (x.map (mapT g)) = linT (fun s => f (bstr (g s.data.toList))) x
  | [] => rfl
  | t :: x => by rw [List.map_cons, linT, linT, lin_map f g x]; rfl
/-- Two lists of terms that are the same up to order. -/
def Same (x y : List Tm) : Prop := ∀ f : ByteArray → Int, linT f x = linT f y
theorem Same.refl (x : List Tm) : Same x x := fun _ => rfl
theorem Same.symm {x y : List Tm} (h : Same x y) : Same y x := fun f => (h f).symm
theorem Same.trans {x y z : List Tm} (h : Same x y) (h2 : Same y z) : Same x z := fun f => (h f).trans (h2 f)
theorem Same.canon (x : List Tm) : Same (canonT x) x := fun f => linT_canon f x
theorem Same.eq {x y : List Tm} (h : Same x y) : canonT x = canonT y := canonT_congr fun s => by rw [coef_lin, coef_lin]; exact h _
theorem Same.eq_of {x y : List Tm} (h : Same x y) (hy : Canon y) : canonT x = y := by rw [h.eq, canon_id hy]
theorem Same.pairs {x x' y y' : List Tm} (h : Same x x') (h2 : Same y y') : Same (pairsT x y) (pairsT x' y') := fun f => by
  rw [lin_pairs, lin_pairs, h]
  refine congrArg (fun k => linT k x') ?_
  funext s; exact h2 _
theorem Same.map {x x' : List Tm} (h : Same x x') (g : List UInt8 → List UInt8) : Same (x.map (mapT g)) (x'.map (mapT g)) := fun f => by rw [lin_map, lin_map]; exact h _
theorem Same.append {x x' y y' : List Tm} (h : Same x x') (h2 : Same y y') : Same (x ++ y) (x' ++ y') := fun f => by rw [linT_append, linT_append, h, h2]
theorem same_comm (x y : List Tm) : Same (x ++ y) (y ++ x) := fun f => by rw [linT_append, linT_append]; omega
theorem Same.scale {x x' : List Tm} (h : Same x x') (c : Int) : Same (scaleT c x) (scaleT c x') := fun f => by rw [linT_scl, linT_scl, h]
theorem same_of_coef {x y : List Tm} (h : ∀ q, coefAt q x = coefAt q y) : Same x y := fun f => linT_same h f
theorem same_perm {x y : List Tm} (h : x.Perm y) : Same x y := same_of_coef fun q => coefAt_perm q h
theorem same_pairs_add (x y z : List Tm) : Same (pairsT x (y ++ z)) (pairsT x y ++ pairsT x z) := fun f => by
  rw [linT_append, lin_pairs, lin_pairs, lin_pairs, ← linT_add2]
  refine congrArg (fun k => linT k x) ?_
  funext s; exact linT_append _ y z
theorem plain_same {x y : List Tm} (h : Same x y) : plainZ x = plainZ y := by rw [plain_is, plain_is]; exact h _
theorem plain_canon (x : List Tm) : plainZ (canonT x) = plainZ x := plain_same (Same.canon x)
theorem plain_append (x y : List Tm) : plainZ (x ++ y) = plainZ x + plainZ y := by rw [plain_is, plain_is, plain_is, linT_append]
theorem linT_const (c : Int) (ts : List Tm) : linT (fun _ => c) ts = c * plainZ ts := by
  rw [plain_is, ← linT_mul]; simp
theorem plain_pairs (x y : List Tm) : plainZ (pairsT x y) = plainZ x * plainZ y := by
  rw [plain_is, lin_pairs]
  have e : (fun _ : ByteArray => linT (fun _ => 1) y) = fun _ => plainZ y := by funext _; rw [plain_is]
  rw [e, linT_const, Int.mul_comm]
theorem plain_map (g : List UInt8 → List UInt8) (x : List Tm) : plainZ (x.map (mapT g)) = plainZ x := by rw [plain_is, plain_is, lin_map]

/-! ### Words in sums -/
def WordsT (x : List Tm) : Prop := ∀ t ∈ x, wordB t.s.data.toList = true
theorem words_of_tw {x : List Tm} (h : twB x = true) : WordsT x := fun t ht => by
  unfold twB at h
  simp only [Bool.and_eq_true] at h
  have := List.all_eq_true.1 h.2 t ht
  unfold termB at this
  simp only [Bool.and_eq_true] at this
  exact this.1
theorem words_of_sum {x : List Tm} (h : sumB x = true) : WordsT x := words_of_tw (sumB_parts h).1
theorem canon_of_sum {x : List Tm} (h : sumB x = true) : Canon x := (sumB_parts h).2
theorem sum_id {x : List Tm} (h : sumB x = true) : canonT x = x := canon_id (canon_of_sum h)
theorem sum_of_tw {x : List Tm} (h : twB (canonT x) = true) : sumB (canonT x) = true := by rw [sumB_canon (canonT_spec x).1]; exact h
theorem map_id_same {x : List Tm} {g : List UInt8 → List UInt8} (h : ∀ t ∈ x, g t.s.data.toList = t.s.data.toList) : x.map (mapT g) = x := by
  refine (List.map_congr_left fun t ht => ?_).trans (List.map_id x)
  show mapT g t = t
  unfold mapT
  rw [h t ht, bstr_of]
theorem map_map_same {x : List Tm} {g k : List UInt8 → List UInt8} (h : ∀ t ∈ x, k (g t.s.data.toList) = t.s.data.toList) : (x.map (mapT g)).map (mapT k) = x := by
  rw [List.map_map]
  refine (List.map_congr_left fun t ht => ?_).trans (List.map_id x)
  show (⟨t.c, bstr (k (bstr (g t.s.data.toList)).data.toList)⟩ : Tm) = t
  rw [bstr_toList, h t ht, bstr_of]
def oneS (s : ByteArray) : List Tm := [⟨1, s⟩]
theorem pairs_one {x : List Tm} (h : WordsT x) : pairsT x (oneS noS) = x := by
  induction x with
  | nil => rfl
  | cons t r ih =>
    have e : pairsT (t :: r) (oneS noS) = (oneS noS).map (pairT t) ++ pairsT r (oneS noS) := by unfold pairsT; rw [List.flatMap_cons]
    rw [e, ih fun u hu => h u (by simp [hu])]
    have e2 : pairT t ⟨1, noS⟩ = t := by
      unfold pairT
      have h0 : (noS : ByteArray).data.toList = [] := rfl
      show (⟨t.c * 1, bstr (redL [] (t.s.data.toList ++ noS.data.toList))⟩ : Tm) = t
      rw [h0, List.append_nil, ((wordB_iff _).1 (h t (by simp))).2.2, bstr_of, Int.mul_one]
    show [pairT t ⟨1, noS⟩] ++ r = t :: r
    rw [e2]; rfl
theorem back_mul {s r : ByteArray} (hs : letL s.data.toList = true) (hr : letL r.data.toList = true) : bstr (backL (mulB s r).data.toList) = mulB (bstr (backL r.data.toList)) (bstr (backL s.data.toList)) := by
  unfold mulB
  rw [bstr_toList, bstr_toList, bstr_toList, back_red (by rw [letL_append, hs, hr]; rfl), backL_append]
/-- Turned products are products the other way. -/
theorem turned_pairs {x y : List Tm} (hx : WordsT x) (hy : WordsT y) : Same ((pairsT x y).map (mapT backL)) (pairsT (y.map (mapT backL)) (x.map (mapT backL))) := fun f => by
  rw [lin_map, lin_pairs, lin_pairs, lin_map, linT_swap]
  refine linT_congr fun u hu => ?_
  rw [lin_map]
  refine linT_congr fun t ht => ?_
  rw [back_mul ((wordB_iff _).1 (hx t ht)).2.1 ((wordB_iff _).1 (hy u hu)).2.1]

end Go.Proofs.Ytebgcebjlbhjjab

/- The law of a loop over an iterator whose variable is boxed in each round. -/

namespace Go.Proofs.Ytebgcebjlbhjjab
open Go.RowKit Go.Shelf

/-- **The loop's law**, where each round's variable is boxed. -/
theorem range_law2 {α : Type} {n : Nat} {g : Operand} {ps : Array Tmp} {assign body : Code} {Q : Exit → Act → World → Prop} {a : Act} {w : World} {gf : Nat} {lb : Array Value} (hn : 10 ≤ n)
    (hg : a.eval g = .func (.func gf) #[] lb) (eg : ∀ args w, (callFunc gf args).run Try.prog w = .ok (.enter gf args) w)
    {encs : α → Array Value} (hps : ∀ x, (encs x).size = ps.size) (Kp : Nat → World → World → Prop) (hKt : ∀ {N X Y Z}, Kp N X Y → Kp N Y Z → Kp N X Z)
    (hKp : ∀ N W l o o', l < N → w.heap.size ≤ l → W.heap[l]? = some o → o.isCells = false → o.isWalk = false → Kp N W (W.putObj l o')) (hKm : ∀ {X Y}, Kp w.heap.size X Y → Kp (w.heap.size + 2) X Y)
    (ob : α → Obj) (hKa : ∀ N W o, w.heap.size ≤ W.heap.size → Kp N W (W.alloc o))
    {xs : List α}
    (hseq : ∀ (l : Nat) (J : List α → World → Prop) (V : World), Below w.heap.size w V → w.heap.size < V.heap.size → OwnFrom V.heap.size J →
      (∀ pre x W1, J pre W1 → pre ++ [x] <+: xs → YieldAt Fence.wide (n - 1 - 1) Try.prog l (encs x) W1 fun e W' => e = .returned (.bool true) ∧ J (pre ++ [x]) W' ∧ Kp V.heap.size W1 W') → J [] V →
      CallsIn Fence.wide (n - 1) Try.prog gf (#[.func (.yield l) #[] #[]] ++ lb) V fun e W' => (∃ v, e = .returned v) ∧ J xs W')
    (I : List α → World → Prop) (hI : OwnFrom w.heap.size I) (h0 : I [] w) (a₁ : α → Nat → Act)
    (hassign : ∀ (l : Nat) (x : α) (W : World) (K : Act → World → Prop), K (a₁ x W.heap.size) (W.alloc (ob x)) →
      assign.wpIn (Fence.wide.inRound l) (n - 1 - 1) Try.prog (Exit.then K (fun _ _ _ => False)) { tmps := (ps.zip (encs x)).foldl (fun t (q, v) => t.setIfInBounds q v) a.tmps, defers := [] } W)
    (hbody : ∀ (l : Nat) (pre : List α) (x : α) (b : Nat) (W : World), I pre W → pre ++ [x] <+: xs → W.heap.size = b + 1 → W.heap[b]? = some (ob x) → w.heap.size + 2 ≤ b →
      body.wpIn (Fence.wide.inRound l) (n - 1 - 1) Try.prog (goesOn w.heap.size Kp I (pre ++ [x]) W) (a₁ x b) W)
    (hdone : ∀ (D : Nat) (W : World), w.heap.size ≤ D → I xs W → W.heap[D]? = some (.deferred (some [])) → Q .normal { a with defers := { target := .collected D, args := #[] } :: a.defers } W) :
    (Code.rangeFunc g ps assign body).wpIn Fence.wide n Try.prog Q a w := by
  refine wpIn_rangeFunc fun fn hfn => ?_
  have lp : ∃ lp : LoopState → Loop, lp = fun st => { state := st, pending := none, fn, tmps := a.tmps, params := ps, assign, body, defers := w.heap.size } := ⟨_, rfl⟩
  obtain ⟨lp, hlp⟩ := lp
  have e1 := run_enterLoop_outer (P := Try.prog) (w := w) fn a.tmps ps assign body
  rw [show ({ state := .ready, pending := none, fn, tmps := a.tmps, params := ps, assign, body, defers := w.heap.size } : Loop) = lp .ready by rw [hlp]] at e1
  have kD : ((w.alloc (.deferred (some []))).alloc (.loop (lp .ready))).heap[w.heap.size]? = some (.deferred (some [])) := (Below.heap_alloc _ _ _ (by simp)).trans (World.alloc_heap_new w _)
  have kL : ((w.alloc (.deferred (some []))).alloc (.loop (lp .ready))).heap[w.heap.size + 1]? = some (.loop (lp .ready)) := by
    have := World.alloc_heap_new (w.alloc (.deferred (some []))) (.loop (lp .ready)); rwa [World.size_alloc] at this
  have i0 := hI.alloc (Obj.loop (lp .ready)) (hI.alloc (Obj.deferred (some [])) h0)
  have hs : ((w.alloc (.deferred (some []))).alloc (.loop (lp .ready))).heap.size = w.heap.size + 2 := by simp
  have hb : Below w.heap.size w ((w.alloc (.deferred (some []))).alloc (.loop (lp .ready))) := ((Below.refl _ w).alloc (Nat.le_refl _) _).alloc (by simp) _
  generalize ((w.alloc (.deferred (some []))).alloc (.loop (lp .ready))) = V at e1 kD kL i0 hs hb
  refine ⟨w.heap.size + 1, _, V, { target := .fn (.func gf) lb, args := #[.func (.yield (w.heap.size + 1)) #[] #[]] }, V, gf, #[.func (.yield (w.heap.size + 1)) #[] #[]] ++ lb, V, e1, ?_, fun f' hf' => ?_, ?_, fun _ => by omega, ?_⟩
  · simp only [resolve, hg]
    simp [go_sem]
  · trivial
  · simp [invoke, go_sem, eg]
  · refine (hseq (w.heap.size + 1) (fun pre W => I pre W ∧ W.heap[w.heap.size]? = some (.deferred (some [])) ∧ W.heap[w.heap.size + 1]? = some (.loop (lp .ready))) V hb (by omega) ?_ ?_ ⟨i0, kD, kL⟩).mono ?_
    · rintro s X Y row ⟨h1, h2, h3⟩ hgr hr
      have far : ∀ k, k < V.heap.size → k < X.heap.size → Y.heap[k]? = X.heap[k]? := fun k hk hX => hgr.block k hX (fun e => by have := (hr k e.symm).1; omega)
      exact ⟨hI s X Y row h1 hgr (fun r e => by obtain ⟨q1, q2⟩ := hr r e; exact ⟨by omega, q2⟩), (far _ (by omega) (Array.getElem?_eq_some_iff.1 h2).1).trans h2, (far _ (by omega) (Array.getElem?_eq_some_iff.1 h3).1).trans h3⟩
    · rintro pre x W ⟨h1, h2, h3⟩ hpre
      have hlt : w.heap.size + 1 < W.heap.size := (Array.getElem?_eq_some_iff.1 h3).1
      have hy := run_yield (P := Try.prog) (args := encs x) h3 (by rw [hlp]; exact hps x)
      rw [hlp] at hy
      obtain ⟨U, hU⟩ : ∃ U, W.alloc (ob x) = U := ⟨_, rfl⟩
      have u3 : U.heap[w.heap.size + 1]? = some (.loop (lp .ready)) := by rw [← hU]; exact (Below.heap_alloc _ _ _ hlt).trans h3
      have u2 : U.heap[w.heap.size]? = some (.deferred (some [])) := by rw [← hU]; exact (Below.heap_alloc _ _ _ (by omega)).trans h2
      have u1 : I pre U := by rw [← hU]; exact hI.alloc (ob x) h1
      have uk : Kp (w.heap.size + 2) W U := by rw [← hU]; exact hKa _ _ _ (by omega)
      have un : U.heap[W.heap.size]? = some (ob x) := by rw [← hU]; exact World.alloc_heap_new W _
      have us : U.heap.size = W.heap.size + 1 := by rw [← hU]; simp
      refine ⟨fn, _, assign, body, hy, roundIn_of_wpIn hfn (hassign _ x W _ ?_)⟩
      rw [hU]
      refine ⟨_, run_beginRound u3 (by rw [hlp]), ?_⟩
      have hltU : w.heap.size + 1 < U.heap.size := by omega
      have b3 : (U.putObj (w.heap.size + 1) (.loop { lp .ready with state := .busy })).heap[w.heap.size + 1]? = some (.loop { lp .ready with state := .busy }) := World.putObj_heap_same hltU
      have b2 : (U.putObj (w.heap.size + 1) (.loop { lp .ready with state := .busy })).heap[w.heap.size]? = some (.deferred (some [])) := (World.putObj_heap_other (by omega)).trans u2
      have b1 := hI.putObj (.loop { lp .ready with state := .busy }) u1 (by omega) u3 rfl
      have bn : (U.putObj (w.heap.size + 1) (.loop { lp .ready with state := .busy })).heap[W.heap.size]? = some (ob x) := (World.putObj_heap_other (by omega)).trans un
      have bs : (U.putObj (w.heap.size + 1) (.loop { lp .ready with state := .busy })).heap.size = W.heap.size + 1 := by rw [World.putObj_size]; exact us
      have bk : Kp (w.heap.size + 2) W (U.putObj (w.heap.size + 1) (.loop { lp .ready with state := .busy })) := hKt uk (hKp _ U _ _ _ (by omega) (by omega) u3 rfl rfl)
      have hWs : w.heap.size + 2 ≤ W.heap.size := by omega
      generalize (U.putObj (w.heap.size + 1) (.loop { lp .ready with state := .busy })) = X at b1 b2 b3 bk bn bs
      refine wpIn_mono (hbody _ pre x W.heap.size X b1 hpre bs bn hWs) ?_
      intro e a3 Y hgo
      cases e with
      | normal => ?_
      | _ => exact hgo.elim
      obtain ⟨k3, kp, hi⟩ := hgo
      have c3 := k3.same _ _ (by omega) b3 rfl
      have c2 := k3.same _ _ (Nat.le_refl _) b2 rfl
      have he := run_endRound (P := Try.prog) none c3
      refine ⟨_, _, he, rfl, ⟨hI.putObj _ hi (by omega) c3 rfl, (World.putObj_heap_other (by omega)).trans c2, ?_⟩, ?_⟩
      · rw [hlp]
        rw [hlp] at c3
        exact World.putObj_heap_same (Array.getElem?_eq_some_iff.1 c3).1
      · rw [hs]
        exact hKt (hKt bk (hKm kp)) (hKp _ Y _ _ _ (by omega) (by omega) c3 rfl rfl)
    · rintro e W ⟨⟨v, rfl⟩, h1, h2, h3⟩
      have he := run_endLoop (P := Try.prog) h3 (by rw [hlp]; simp)
      rw [show (lp .ready).pending = none by rw [hlp]] at he
      exact ⟨none, _, he, hdone _ _ (Nat.le_refl _) (hI.putObj _ h1 (by omega) h3 rfl) ((World.putObj_heap_other (by omega)).trans h2)⟩

end Go.Proofs.Ytebgcebjlbhjjab

/- The contracts of slices.Values, slices.AppendSeq and slices.Collect at terms. -/

namespace Go.Proofs.Ytebgcebjlbhjjab
open Go.RowKit Go.Shelf

attribute [local go_sem] Oper.semAt_some

abbrev encM (x : Tm) : Array Value := #[.agg #[.int .i64 x.c, .string x.s]]
abbrev VT : Nat := 157
abbrev ST : TypeId := 25

set_option maxRecDepth 100000 in
set_option maxHeartbeats 1000000 in
/-- slices.Values at terms. -/
theorem valuesT_in (n : Nat) (hn : 1 ≤ n) (l Bs n₀ : Nat) (ts : List Tm) (a : Option Addr) (cap len : Nat) (hlen : ts.length = len) (hm : len ≤ maxLen) (J : List Tm → World → Prop) (V : World) (hJ : OwnFrom V.heap.size J) (hn₀ : n₀ ≤ V.heap.size)
    (hY : ∀ pre x W, J pre W → pre ++ [x] <+: ts → YieldAt Fence.wide (n - 1) Try.prog l (encM x) W fun e W' => e = .returned (.bool true) ∧ J (pre ++ [x]) W' ∧ Below n₀ W W')
    (hBs : V.cell? ⟨Bs, 0, none⟩ = some (.slice a len cap)) (hw : 0 < len → ∃ x, a = some x ∧ x.block < n₀ ∧ TermsAt V x ts) (h0 : J [] V) :
    CallsIn Fence.wide n Try.prog VT #[.func (.yield l) #[] #[], .pointer (some ⟨Bs, 0, none⟩)] V fun e W' => (∃ v, e = .returned v) ∧ J ts W' := by
  have HW := Lib.hid hw
  have HL := Lib.hid hlen
  clear hw hlen
  unfold maxLen at hm
  refine callsIn_of_wp Try.func157 rfl trivial ?_ rfl
  simp only [Try.ntmps157, List.size_toArray, List.length_cons, List.length_nil, Nat.reduceAdd, Nat.reduceSub, Array.replicate_succ, Array.replicate_zero, List.push_toArray, List.append_toArray, List.nil_append, List.cons_append]
  gi_wp2
  gi_loopw [7] (fun i wr => ∃ k : Nat, k ≤ len ∧ i = .int .i64 k ∧ J (ts.take k) wr ∧ Below n₀ V wr) (fun i _ => len - (intOf i).toNat)
  case atStart => exact ⟨0, Nat.zero_le _, rfl, h0, Below.refl _ _⟩
  case round =>
    obtain ⟨k, hk, rfl, hJs, hnx⟩ := hrel
    by_cases hlt : k < len
    · have hkl : k < ts.length := by rw [HL.out]; exact hlt
      obtain ⟨ad, rfl, hb, hx⟩ := HW.out (by omega)
      obtain ⟨t, ht⟩ : ∃ t, ts[k] = t := ⟨_, rfl⟩
      have hc := hx.2 k hkl
      rw [ht, addr_next] at hc
      have c0 := (hnx.cell (p := ad.add (k * 2)) (by rw [addr_add_block]; exact hb)).trans hc.1
      have c1 := (hnx.cell (p := ⟨(ad.add (k * 2)).block, (ad.add (k * 2)).off + 1, none⟩) (by show (ad.add (k * 2)).block < _; rw [addr_add_block]; exact hb)).trans hc.2
      have HS : Hid (ts.take (k + 1) = ts.take k ++ [t]) := by rw [← ht]; exact Lib.hid (List.take_succ_eq_append_getElem hkl)
      have hJa := hJ.alloc (Obj.cells #[.int .i64 t.c, .string t.s] TI) hJs
      obtain ⟨fn, tmps, assign, body, hy, hR⟩ := hY _ t _ hJa (by rw [← HS.out]; exact List.take_prefix _ _)
      have hba : Below n₀ wr (wr.alloc (Obj.cells #[.int .i64 t.c, .string t.s] TI)) := (Below.refl _ _).alloc (Nat.le_trans hn₀ hnx.size) _
      have HBa := Lib.hid hba
      clear ht hkl hc hx hJa hba
      gi_wp2
      refine hR.mono ?_
      rintro e W3 ⟨rfl, hJ3, hk3⟩
      gi_wp2
      go_roundw
      case rel => exact ⟨k + 1, by omega, by simp, by rw [HS.out]; exact hJ3, hnx.trans (HBa.out.trans hk3)⟩
      case measure => simp [intOf]; omega
    · have HA : Hid (ts.take k = ts) := Lib.hid (List.take_of_length_le (by rw [HL.out]; omega))
      gi_wp2
      go_end0
      exact ⟨⟨_, rfl⟩, by rw [← HA.out]; exact hJs⟩

theorem valuesT_any (a : Option Addr) (len cap : Nat) (w : World) :
    Calls Try.prog 145 #[.slice a len cap] w fun e w' => e = .returned (.func (.func VT) #[] #[.pointer (some ⟨w.heap.size, 0, none⟩)]) ∧ w' = w.alloc (.cells #[.slice a len cap] ST) := by
  go_enter Try.func145, Try.ntmps145
  go_wp2
  go_ret
  exact ⟨rfl, rfl⟩

/-- The box B holds a slice that owns the terms. -/
def HoldT (base B : Nat) (pre : List Tm) (W : World) : Prop :=
  ∃ v, Boxed W B ST v ∧ W.ownsRow base TI 2 v pre.length (termsV pre) ∧ True
theorem HoldT.own (base B : Nat) : Own (HoldT base B) := holdsRow_own base B ST TI 2 (fun pre : List Tm => pre.length) (fun pre => termsV pre) (fun _ _ => True)

set_option maxRecDepth 100000 in
set_option maxHeartbeats 4000000 in
theorem appendSeq_in (n : Nat) (hn : 20 ≤ n) (Bs : Nat) (ts : List Tm) (a : Option Addr) (cap len : Nat) (w : World) (hlen : ts.length = len) (hm : len ≤ 1000000) (hBsz : Bs < w.heap.size)
    (hBs : w.cell? ⟨Bs, 0, none⟩ = some (.slice a len cap)) (hw : 0 < len → ∃ x, a = some x ∧ TermsAt w x ts) :
    CallsIn Fence.wide n Try.prog 169 #[.slice none 0 0, .func (.func VT) #[] #[.pointer (some ⟨Bs, 0, none⟩)]] w fun e w' =>
      (∃ v, e = .returned v ∧ w'.ownsRow w.heap.size TI 2 v len (termsV ts)) ∧ Below w.heap.size w w' := by
  obtain ⟨i0, hi, hz0, hz1, hz2⟩ := info_parts infoTerm
  have HW := Lib.hid hw
  have HL := Lib.hid hlen
  clear hw hlen
  refine callsIn_of_wp_marks Try.func169 rfl trivial ?_ rfl
  simp only [Try.ntmps169, List.size_toArray, List.length_cons, List.length_nil, Nat.reduceAdd, Nat.reduceSub, Array.replicate_succ, Array.replicate_zero, List.push_toArray, List.append_toArray, List.nil_append, List.cons_append]
  have hb0 := Boxed.new w ST (.slice none 0 0)
  have hBv : Below w.heap.size w (w.alloc (.cells #[.slice none 0 0] ST)) := (Below.refl _ w).alloc (Nat.le_refl _) _
  have hsz : (w.alloc (.cells #[.slice none 0 0] ST)).heap.size = w.heap.size + 1 := by simp
  obtain ⟨V, hV⟩ : ∃ V, w.alloc (.cells #[.slice none 0 0] ST) = V := ⟨_, rfl⟩
  rw [hV] at hb0 hBv hsz
  have HV := Lib.hid hV
  have HB0 := Lib.hid hb0
  clear hV hb0
  gi_wp2
  rw [HV.out]
  refine range_law2 (by omega) (gf := VT) (lb := #[.pointer (some ⟨Bs, 0, none⟩)]) rfl (enters_of Try.func157 (by kernel_rfl) rfl) (encs := encM) (fun _ => rfl) (KeepP w.heap.size) (fun h k => ⟨h.1.trans k.1, h.2.trans k.2⟩)
    (fun N W l o o' hl hwl hW ho hwk => ⟨belowK_b (w := V) (by omega) W l o o' hwl hW ho hwk, KeepsFrom.of_grownBy (grownBy_putObj' W l o') (fun j e => by cases e; exact hl)⟩)
    (fun h => ⟨h.1, keepsFrom_mono h.2 (by omega)⟩)
    (fun x => .cells #[.int .i64 x.c, .string x.s] TI) (fun N W o hs => ⟨(Below.refl _ _).alloc (by omega) _, (KeepsOthers.alloc _ _).from _⟩)
    (xs := ts)
    (fun l J X hX hlt hJ hY h0 => valuesT_in (n - 1) (by omega) l Bs w.heap.size ts a cap len HL.out (by unfold maxLen; omega) J X hJ (by omega) (fun pre x W1 hj hl => (hY pre x W1 hj hl).mono (fun _ _ ⟨a, b, c⟩ => ⟨a, b, c.1⟩))
      (((hX.cell (p := ⟨Bs, 0, none⟩) (by show Bs < V.heap.size; omega)).trans (hBv.cell (p := ⟨Bs, 0, none⟩) hBsz)).trans hBs) (fun h => by
        obtain ⟨ad, e, hx⟩ := HW.out h
        exact ⟨ad, e, hx.1, (hx.below hBv).below hX⟩) h0)
    (fun pre X => HoldT w.heap.size w.heap.size pre X ∧ Below w.heap.size w X)
    (OwnFrom.and (Own.from (HoldT.own _ _) _) (ownFrom_below (by omega) (by omega)))
    ⟨⟨_, HB0.out, ⟨rfl, .inl ⟨rfl, rfl⟩⟩, trivial⟩, hBv⟩
    (fun x b => { tmps := #[.slice none 0 0, .func (.func VT) #[] #[.pointer (some ⟨Bs, 0, none⟩)], .pointer (some ⟨w.heap.size, 0, none⟩), undef, .slice none 0 0, .pointer (some ⟨b, 0, none⟩), .func (.func VT) #[] #[.pointer (some ⟨Bs, 0, none⟩)], .agg #[.int .i64 x.c, .string x.s], undef, undef, undef, undef, undef], defers := [] }) ?assign ?body ?done
  case assign =>
    intro l x W K hK
    gi_wp2
    exact hK
  case body =>
    rintro l pre x b W ⟨⟨v, hbx, hrow, _⟩, hB⟩ hpre hsW hbn hb2
    have hplen := prefix_len hpre
    rw [HL.out] at hplen
    have hcell := hbx.cell
    have hbb : Boxed W b TI (.int .i64 0) → True := fun _ => trivial
    have c0 : W.cell? ⟨b, 0, none⟩ = some (.int .i64 x.c) := by simp [World.cell?, hbn]
    have c1 : W.cell? ⟨b, 1, none⟩ = some (.string x.s) := by simp [World.cell?, hbn]
    have HROW := Lib.hid hrow
    have HBX := Lib.hid hbx
    have HBn := Lib.hid hbn
    clear hrow hbx hpre hbn hbb
    have HPN := cell_pair_new W (.int .i64 x.c) (.string x.s) TI
    rw [hsW] at HPN
    have HP := Lib.hid HPN
    have hnr := HBX.out.not_row (by decide) HROW.out
    have HNR := Lib.hid hnr
    clear HPN hnr
    gi_wp2_with (refine wpListIn_append_own _ rfl (.tmp 8) (.tmp 10) ST rfl w.heap.size TI i0 (.agg #[.int .i64 0, .string ByteArray.empty]) 2 24 Try.underlying25 hi hz0 hz1 hz2 rfl (by decide) v pre.length (termsV pre) rfl (HROW.out.alloc _) ⟨b + 1, 0, none⟩ 1 1 [.int .i64 x.c, .string x.s] rfl rfl HP.out (fun u hu => by simp at hu; rcases hu with rfl | rfl <;> rfl) (by unfold maxLen; omega) (by omega) (by simp; omega) ?_)
    intro v' w1 hown' hgr' _
    have hbX : Boxed w1 w.heap.size ST v := (HBX.out.alloc _).kept hgr' HNR.out
    have hrowb : ∀ j, v.ownBlock = some j → w.heap.size ≤ j ∧ ∃ cs r, W.heap[j]? = some (.cells cs TI r) := by
      intro j ej
      rcases HROW.out.2 with ⟨rfl, _⟩ | ⟨g1', cap1', cur1, rfl, hg1, hg2, _⟩
      · cases ej
      · simp [Value.ownBlock] at ej
        subst ej
        exact ⟨hg1, _, _, hg2⟩
    have hko : KeepsOthers W (w1.setCell ⟨w.heap.size, 0, none⟩ v') := by
      refine (KeepsOthers.alloc _ _).trans ((KeepsOthers.of_grownBy hgr' fun j o ej hj => ?_).trans (KeepsOthers.setCell _ _ _))
      obtain ⟨hj1, cs, r, hjc⟩ := hrowb j ej
      have hlt : j < W.heap.size := (Array.getElem?_eq_some_iff.1 hjc).1
      rw [Below.heap_alloc _ _ _ hlt, hjc] at hj
      cases hj; rfl
    have hbel : Below w.heap.size W (w1.setCell ⟨w.heap.size, 0, none⟩ v') :=
      ((((Below.refl _ W).alloc (by omega) _).grown hgr' (by simp; omega) (fun j ej => (hrowb j ej).1))).setCell (p := ⟨w.heap.size, 0, none⟩) (Nat.le_refl _) _
    have hown'' : (w1.setCell ⟨w.heap.size, 0, none⟩ v').ownsRow w.heap.size TI 2 v' (pre.length + 1) (termsV pre ++ [.int .i64 x.c, .string x.s]) := hown'.kept (grownBy_setCell' w1 w.heap.size v') (.inr (hbX.not_row (by decide) hown').symm)
    have hcX := hbX.cell
    have hfX := hbX.frozen
    have hbs := hbX.set v'
    have HO := Lib.hid hown''
    have HKO := Lib.hid hko
    have HBL := Lib.hid hbel
    have HBS := Lib.hid hbs
    obtain ⟨g', cap', rfl⟩ := ownsRow_succ hown'
    clear hown' hown'' hgr' hko hbel hbs hrowb
    gi_wp2
    refine ⟨HKO.out.from _, ⟨HBL.out, HKO.out.from _⟩, ⟨_, HBS.out, ?_, trivial⟩, hB.trans HBL.out⟩
    rw [List.length_append, termsV_append]
    exact HO.out
  case done =>
    rintro D W hD ⟨⟨v, hbx, hrow, _⟩, hB⟩ hK
    have hcell := hbx.cell
    have HROW := Lib.hid hrow
    have HK := Lib.hid hK
    clear hrow hbx hK
    gi_wp2
    refine ⟨by simp, .inl ⟨_, _, rfl, run_takeDeferred HK.out, ?_⟩⟩
    refine ⟨v, by simp [results, Try.f169, go_sem], ⟨v, rfl, ?_⟩, hB.trans (belowK_b (w := w) (Nat.le_refl _) W D _ _ (by omega) HK.out rfl rfl)⟩
    have := ownsRow_putObj HROW.out (.deferred none) HK.out rfl
    rw [HL.out] at this
    exact this

theorem collect_any (Bs : Nat) (ts : List Tm) (a : Option Addr) (cap len : Nat) (w : World) (hlen : ts.length = len) (hm : len ≤ 1000000) (hBsz : Bs < w.heap.size)
    (hBs : w.cell? ⟨Bs, 0, none⟩ = some (.slice a len cap)) (hw : 0 < len → ∃ x, a = some x ∧ TermsAt w x ts) :
    Calls Try.prog 156 #[.func (.func VT) #[] #[.pointer (some ⟨Bs, 0, none⟩)]] w fun e w' =>
      (∃ v, e = .returned v ∧ w'.ownsRow w.heap.size TI 2 v len (termsV ts)) ∧ Below w.heap.size w w' := by
  have H := Lib.hid ((callsIn_wide (n := 30)).1 (appendSeq_in 30 (by omega) Bs ts a cap len w hlen hm hBsz hBs hw))
  clear hlen hBs hw
  go_enter Try.func156, Try.ntmps156
  go_wp2_with fail
  refine H.out.mono ?_
  rintro e w1 ⟨⟨v, rfl, ho⟩, hb⟩
  have HO := Lib.hid ho
  clear ho
  go_wp2
  go_ret
  exact ⟨⟨_, rfl, HO.out⟩, hb⟩

end Go.Proofs.Ytebgcebjlbhjjab

/- The library's sort, at terms and 'compareTerms'. -/

namespace Go.Proofs.Ytebgcebjlbhjjab
open Go.Shelf Go.RowKit Go.Lib Go.Sort

def sortT_ren : Go.Shelf.Ren := ⟨fun | 6 => 132 | 15 => 153 | 14 => 152 | 28 => 167 | 29 => 168 | 20 => 159 | 21 => 160 | 22 => 161 | 23 => 162 | 24 => 163 | 25 => 164 | 26 => 165 | 27 => 166 | 46 => 170 | 47 => 171 | 48 => 172 | 49 => 173 | 50 => 174 | 57 => 175 | n => n, fun | 22 => 25 | 24 => 54 | 25 => 99 | 3 => 3 | 39 => 161 | 0 => 0 | 53 => 172 | 55 => 174 | 4 => 4 | 46 => 166 | 45 => 165 | 50 => 29 | 5 => 5 | 9 => 9 | 66 => 176 | 70 => 180 | 76 => 182 | 77 => 183 | n => n, fun n => n⟩
theorem sortT : SlLaysF0.n6 Try.prog sortT_ren := {
  mixed := by kernel_rfl
  f6 := Exists.intro "slices.SortFunc[[]loop.example/foxcalculus/impl.Term,loop.example/foxcalculus/impl.Term]" ⟨of_decide_eq_true (by kernel_rfl), Try.func132.trans (congrArg some (by kernel_rfl))⟩
  f14 := Exists.intro "slices.pdqsortCmpFunc[loop.example/foxcalculus/impl.Term]" ⟨of_decide_eq_true (by kernel_rfl), Try.func152.trans (congrArg some (by kernel_rfl))⟩
  f15 := Try.func153.trans (congrArg some (by kernel_rfl))
  f20 := Exists.intro "slices.insertionSortCmpFunc[loop.example/foxcalculus/impl.Term]" ⟨of_decide_eq_true (by kernel_rfl), Try.func159.trans (congrArg some (by kernel_rfl))⟩
  f21 := Exists.intro "slices.heapSortCmpFunc[loop.example/foxcalculus/impl.Term]" ⟨of_decide_eq_true (by kernel_rfl), Try.func160.trans (congrArg some (by kernel_rfl))⟩
  f22 := Exists.intro "slices.breakPatternsCmpFunc[loop.example/foxcalculus/impl.Term]" ⟨of_decide_eq_true (by kernel_rfl), Try.func161.trans (congrArg some (by kernel_rfl))⟩
  f23 := Exists.intro "slices.choosePivotCmpFunc[loop.example/foxcalculus/impl.Term]" ⟨of_decide_eq_true (by kernel_rfl), Try.func162.trans (congrArg some (by kernel_rfl))⟩
  f24 := Exists.intro "slices.reverseRangeCmpFunc[loop.example/foxcalculus/impl.Term]" ⟨of_decide_eq_true (by kernel_rfl), Try.func163.trans (congrArg some (by kernel_rfl))⟩
  f25 := Exists.intro "slices.partialInsertionSortCmpFunc[loop.example/foxcalculus/impl.Term]" ⟨of_decide_eq_true (by kernel_rfl), Try.func164.trans (congrArg some (by kernel_rfl))⟩
  f26 := Exists.intro "slices.partitionEqualCmpFunc[loop.example/foxcalculus/impl.Term]" ⟨of_decide_eq_true (by kernel_rfl), Try.func165.trans (congrArg some (by kernel_rfl))⟩
  f27 := Exists.intro "slices.partitionCmpFunc[loop.example/foxcalculus/impl.Term]" ⟨of_decide_eq_true (by kernel_rfl), Try.func166.trans (congrArg some (by kernel_rfl))⟩
  f28 := Try.func167.trans (congrArg some (by kernel_rfl))
  f29 := Try.func168.trans (congrArg some (by kernel_rfl))
  f46 := Exists.intro "slices.siftDownCmpFunc[loop.example/foxcalculus/impl.Term]" ⟨of_decide_eq_true (by kernel_rfl), Try.func170.trans (congrArg some (by kernel_rfl))⟩
  f47 := Try.func171.trans (congrArg some (by kernel_rfl))
  f48 := Try.func172.trans (congrArg some (by kernel_rfl))
  f49 := Exists.intro "slices.medianAdjacentCmpFunc[loop.example/foxcalculus/impl.Term]" ⟨of_decide_eq_true (by kernel_rfl), Try.func173.trans (congrArg some (by kernel_rfl))⟩
  f50 := Exists.intro "slices.medianCmpFunc[loop.example/foxcalculus/impl.Term]" ⟨of_decide_eq_true (by kernel_rfl), Try.func174.trans (congrArg some (by kernel_rfl))⟩
  f57 := Exists.intro "slices.order2CmpFunc[loop.example/foxcalculus/impl.Term]" ⟨of_decide_eq_true (by kernel_rfl), Try.func175.trans (congrArg some (by kernel_rfl))⟩
  t0 := Try.underlying0
  a0 := Try.isAgg0
  z0 := Try.sizeOf0
  v0 := Try.zeroValue0
  t3 := Try.underlying3
  a3 := Try.isAgg3
  z3 := Try.sizeOf3
  v3 := Try.zeroValue3
  t4 := Try.underlying4
  a4 := Try.isAgg4
  z4 := Try.sizeOf4
  v4 := Try.zeroValue4
  t5 := Try.underlying5
  a5 := Try.isAgg5
  z5 := Try.sizeOf5
  v5 := Try.zeroValue5
  t9 := Try.underlying9
  a9 := Try.isAgg9
  z9 := Try.sizeOf9
  v9 := Try.zeroValue9
  t22 := Try.underlying25
  a22 := Try.isAgg25
  z22 := Try.sizeOf25
  v22 := Try.zeroValue25
  t25 := Try.underlying99
  a25 := Try.isAgg99
  z25 := Try.sizeOf99
  v25 := Try.zeroValue99
  t39 := Try.underlying161
  a39 := Try.isAgg161
  z39 := Try.sizeOf161
  v39 := Try.zeroValue161
  t45 := Try.underlying165
  a45 := Try.isAgg165
  z45 := Try.sizeOf165
  v45 := Try.zeroValue165
  t46 := Try.underlying166
  a46 := Try.isAgg166
  z46 := Try.sizeOf166
  v46 := Try.zeroValue166
  t50 := Try.underlying29
  a50 := Try.isAgg29
  z50 := Try.sizeOf29
  v50 := Try.zeroValue29
  t53 := Try.underlying172
  a53 := Try.isAgg172
  z53 := Try.sizeOf172
  v53 := Try.zeroValue172
  t55 := Try.underlying174
  a55 := Try.isAgg174
  z55 := Try.sizeOf174
  v55 := Try.zeroValue174
  t66 := Try.underlying176
  a66 := Try.isAgg176
  z66 := Try.sizeOf176
  v66 := Try.zeroValue176
  t70 := Try.underlying180
  a70 := Try.isAgg180
  z70 := Try.sizeOf180
  v70 := Try.zeroValue180
  t76 := Try.underlying182
  a76 := Try.isAgg182
  z76 := Try.sizeOf182
  v76 := Try.zeroValue182
  t77 := Try.underlying183
  a77 := Try.isAgg183
  z77 := Try.sizeOf183
  v77 := Try.zeroValue183 }

def encT (t : Tm) : List Value := [.int .i64 t.c, .string t.s]
def cmpT (a b : Tm) : Int := cmpW a.s b.s
theorem ltOf_cmpT (a b : Tm) : ltOf cmpT a b = lessW a.s b.s := by rw [lessW_cmp]; rfl
theorem swoT : SWO (ltOf cmpT) where
  irrefl x := by rw [ltOf_cmpT]; exact lessW_irrefl _
  trans x y z h1 h2 := by rw [ltOf_cmpT] at *; exact lessW_trans h1 h2
  ntrans x y z h1 h2 := by
    rw [ltOf_cmpT] at *
    cases h3 : lessW x.s z.s with
    | false => rfl
    | true =>
      cases h4 : lessW y.s x.s with
      | true => have := lessW_trans h4 h3; rw [h2] at this; cases this
      | false => have := lessW_tri h1 h4; rw [this, h2] at h3; cases h3

theorem cmpLaysT (blk off size : Nat) (w : World) : CmpLays Try.prog 88 #[] encT 2 cmpT blk off size w :=
  fun _ _ _ _ x y => compareTerms_any x y _

theorem sortTerms (blk off cap : Nat) (d : Array Tm) (w : World) (hH : HoldsK encT 2 w blk off d) (hblk : blk < w.heap.size) (hsz : d.size < 4611686018427387904) :
    Calls Try.prog 132 #[.slice (some ⟨blk, off, none⟩) d.size cap, .func (.func 88) #[] #[]] w fun e w' => e = .returned (.tuple #[]) ∧ ∃ d' n os, PermIn 0 d.size d d' ∧ SortedIn (ltOf cmpT) 0 d.size d' ∧ w' = sortWorldK encT 2 w blk off n d' os :=
  AnyQ.slices_SortFunc sortT 2 Try.isAgg54 Try.sizeOf54 encT (fun _ => rfl) (fun x v hv => by simp [encT] at hv; rcases hv with rfl | rfl <;> rfl) cmpT swoT 88 #[] blk off cap d w
    (enters_of Try.func88 (by kernel_rfl) rfl) (cmpLaysT blk off d.size w) hH hblk hsz

end Go.Proofs.Ytebgcebjlbhjjab

/- The contract of slices.SortedFunc at terms. -/

namespace Go.Proofs.Ytebgcebjlbhjjab
open Go.RowKit Go.Shelf Go.Sort

theorem flat_terms (d : Array Tm) : flatK encT 2 d = (termsV d.toList).toArray := by
  apply Array.toList_inj.1
  apply List.ext_getElem
  · simp [flatK, termsV_len]
  · intro j h1 h2
    have hj : j < d.size * 2 := by simpa [flatK] using h1
    have hq : j / 2 < d.toList.length := by simp; omega
    have hg := termsV_get d.toList (j / 2) hq
    have e1 : (flatK encT 2 d).toList[j] = (encT d[j / 2]!)[j % 2]! := by simp [flatK]
    have e0 : d[j / 2]! = d.toList[j / 2] := by rw [getElem!_pos d (j / 2) (by simpa using hq)]; simp
    rw [e1, e0]
    rcases Nat.mod_two_eq_zero_or_one j with h | h
    · rw [h]
      have e2 : j / 2 * 2 = j := by omega
      rw [e2] at hg
      exact ((List.getElem?_eq_some_iff.1 hg.1).2).symm
    · rw [h]
      have e2 : j / 2 * 2 + 1 = j := by omega
      rw [e2] at hg
      exact ((List.getElem?_eq_some_iff.1 hg.2).2).symm

theorem holdsK_of_owns {w : World} {base g cap n : Nat} {ts : List Tm} (hn : ts.length = n) (h : w.ownsRow base TI 2 (.slice (some ⟨g, 0, none⟩) n cap) n (termsV ts)) : HoldsK encT 2 w g 0 ts.toArray := by
  unfold HoldsK
  rw [flat_terms]
  intro j hj
  have hj2 : j < (termsV ts).length := by simpa using hj
  have hj3 : j < n * 2 := by rw [termsV_len] at hj2; omega
  refine ⟨?_, by rw [Nat.zero_add]; exact h.frozenAt j⟩
  rw [Nat.zero_add, h.cellAt j hj3, List.getElem?_eq_getElem hj2]
  simp only [id]
  rw [getElem!_pos _ j (by simpa using hj2)]
  simp

theorem owns_put {w : World} {base g cap n m : Nat} {os : Array Obj} {F : List Value} {xs : List Value} (hF : F.length = n * 2) (h : w.ownsRow base TI 2 (.slice (some ⟨g, 0, none⟩) n cap) n xs) :
    (grow (putRow id (Sort.ahead w m) g 0 F.toArray) os).ownsRow base TI 2 (.slice (some ⟨g, 0, none⟩) n cap) n F ∧ w.grownBy (grow (putRow id (Sort.ahead w m) g 0 F.toArray) os) (some g) := by
  rcases h.2 with ⟨h, _⟩ | ⟨g1, cap1, cur, h1, hb, hg, hn, hc, hs, ht⟩
  · cases h
  · cases h1
    have hlt : g < w.heap.size := (Array.getElem?_eq_some_iff.1 hg).1
    have hh : (grow (putRow id (Sort.ahead w m) g 0 F.toArray) os).heap[g]? = some (.cells (putCells id 0 F.toArray cur) TI (0, 0)) := by
      rw [heap_grow_old _ _ (by simpa using hlt)]
      simp [putRow, mapBlock, Sort.ahead, Array.getElem?_modify, hg, onCells]
    refine ⟨⟨hF, .inr ⟨g, cap, _, rfl, hb, hh, hn, hc, by simp [putCells, hs], ?_⟩⟩, ⟨rfl, rfl, rfl, by simp, fun k hk hne => ?_⟩⟩
    · have hle : F.length ≤ cur.size := by rw [hs, hF]; omega
      rw [← hF]
      apply List.ext_getElem?
      intro j
      by_cases hj : j < F.length
      · rw [List.getElem?_take_of_lt hj, Array.getElem?_toList]
        simp [putCells, hj, show j < cur.size by omega]
      · rw [List.getElem?_take_eq_none (by omega), List.getElem?_eq_none (by omega)]
    · rw [heap_grow_old _ _ (by simpa using hk)]
      have : g ≠ k := fun e => hne (by rw [e])
      simp [putRow, mapBlock, Sort.ahead, Array.getElem?_modify, this]

theorem perm_of {ts : List Tm} {d : Array Tm} (h : PermIn 0 ts.toArray.size ts.toArray d) : d.toList.Perm ts := by
  obtain ⟨h1, _, h3⟩ := h
  have e1 : d.extract 0 ts.toArray.size = d := by rw [← h1]; simp
  have e2 : ts.toArray.extract 0 ts.toArray.size = ts.toArray := by simp
  rw [e1, e2] at h3
  simpa using h3
theorem sorted_of {d : Array Tm} {n : Nat} (hn : d.size = n) (h : SortedIn (ltOf cmpT) 0 n d) : d.toList.Pairwise (fun a b => lessW b.s a.s = false) := by
  rw [List.pairwise_iff_getElem]
  intro i j hi hj hij
  have := h i j (Nat.zero_le _) hij (by rw [← hn]; simpa using hj)
  rw [ltOf_cmpT, getElem!_pos d j (by simpa using hj), getElem!_pos d i (by simpa using hi)] at this
  simpa using this

/-- The library's sort on a row of the call's own. -/
theorem sortOwn_any (base : Nat) (v : Value) (n : Nat) (ts : List Tm) (w : World) (hn : ts.length = n) (hm : n ≤ 1000000) (hbase : base ≤ w.heap.size) (h : w.ownsRow base TI 2 v n (termsV ts)) :
    Calls Try.prog 132 #[v, .func (.func 88) #[] #[]] w fun e w' =>
      e = .returned (.tuple #[]) ∧ (∃ ss : List Tm, ss.Perm ts ∧ ss.Pairwise (fun a b => lessW b.s a.s = false) ∧ w'.ownsRow base TI 2 v n (termsV ss)) ∧ Below base w w' := by
  by_cases h0 : n = 0
  · subst h0
    obtain rfl := List.length_eq_zero_iff.1 hn
    obtain ⟨p, cap, rfl⟩ : ∃ p cap, v = .slice p 0 cap := by
      rcases h.2 with ⟨rfl, _⟩ | ⟨g, cap, cur, rfl, _⟩
      · exact ⟨_, _, rfl⟩
      · exact ⟨_, _, rfl⟩
    refine (AnyF.slices_SortFunc_none (ρ := sortT_ren) { sortT with } p cap (.func (.func 88) #[] #[]) w).mono ?_
    rintro e w' ⟨rfl, rfl⟩
    exact ⟨rfl, ⟨[], List.Perm.refl _, List.Pairwise.nil, h⟩, Below.refl _ _⟩
  · rcases h.2 with ⟨rfl, h0'⟩ | ⟨g, cap, cur, rfl, hb, hg, hnc, hcm, _⟩
    · exact absurd h0' h0
    have hs := sortTerms g 0 cap ts.toArray w (holdsK_of_owns hn h) (Array.getElem?_eq_some_iff.1 hg).1 (by simp; omega)
    rw [show ts.toArray.size = n by simpa using hn] at hs
    refine hs.mono ?_
    rintro e w' ⟨rfl, d', m, os, hp, hso, rfl⟩
    have hsz : d'.size = n := by rw [hp.1]; simpa using hn
    have hp' : PermIn 0 ts.toArray.size ts.toArray d' := by rw [show ts.toArray.size = n by simpa using hn]; exact hp
    have ho := owns_put (m := m) (os := os) (F := termsV d'.toList) (by rw [termsV_len]; simp [hsz]) h
    have e1 : sortWorldK encT 2 w g 0 m d' os = grow (putRow id (Sort.ahead w m) g 0 (termsV d'.toList).toArray) os := by
      unfold sortWorldK putRowK; rw [flat_terms]
    rw [e1]
    exact ⟨rfl, ⟨d'.toList, perm_of hp', sorted_of hsz hso, ho.1⟩, (Below.refl _ _).grown ho.2 hbase (fun j ej => by cases ej; exact hb)⟩

set_option maxHeartbeats 1000000 in
theorem sortedFunc_any (Bs : Nat) (ts : List Tm) (a : Option Addr) (cap len : Nat) (w : World) (hlen : ts.length = len) (hm : len ≤ 1000000) (hBsz : Bs < w.heap.size)
    (hBs : w.cell? ⟨Bs, 0, none⟩ = some (.slice a len cap)) (hw : 0 < len → ∃ x, a = some x ∧ TermsAt w x ts) :
    Calls Try.prog 144 #[.func (.func VT) #[] #[.pointer (some ⟨Bs, 0, none⟩)], .func (.func 88) #[] #[]] w fun e w' =>
      (∃ v, e = .returned v ∧ ∃ ss : List Tm, ss.Perm ts ∧ ss.Pairwise (fun a b => lessW b.s a.s = false) ∧ w'.ownsRow w.heap.size TI 2 v len (termsV ss)) ∧ Below w.heap.size w w' := by
  have H := Lib.hid (collect_any Bs ts a cap len w hlen hm hBsz hBs hw)
  have HL := Lib.hid hlen
  clear hlen hBs hw
  go_enter Try.func144, Try.ntmps144
  go_wp2_with fail
  refine H.out.mono ?_
  rintro e w1 ⟨⟨v, rfl, ho⟩, hb⟩
  have HO := Lib.hid ho
  clear ho
  go_wp2_with fail
  refine (sortOwn_any w.heap.size v len ts w1 HL.out hm hb.size HO.out).mono ?_
  rintro e w2 ⟨rfl, ⟨ss, hp, hs, ho⟩, hb2⟩
  have HS := Lib.hid (And.intro hp (And.intro hs ho))
  clear hp hs ho
  go_wp2
  go_ret
  exact ⟨⟨_, rfl, ss, HS.out⟩, hb.trans hb2⟩

end Go.Proofs.Ytebgcebjlbhjjab

/- The contracts of the program's 'joinTerms' and 'push'. -/

namespace Go.Proofs.Ytebgcebjlbhjjab
open Go.RowKit Go.Shelf

set_option maxHeartbeats 1000000 in
theorem joinTerms_any (a b : Tm) (w : World) (hc : -9223372036854775808 ≤ a.c + b.c ∧ a.c + b.c ≤ 9223372036854775807) :
    Calls Try.prog 114 #[.agg #[.int .i64 a.c, .string a.s], .agg #[.int .i64 b.c, .string b.s]] w fun e w' => e = .returned (.agg #[.int .i64 (a.c + b.c), .string a.s]) ∧ Below w.heap.size w w' := by
  obtain ⟨c, s⟩ := a
  obtain ⟨d, t⟩ := b
  have hw : IntKind.i64.wrap (c + d) = c + d := IntWalk.i64_in _ hc
  go_enter Try.func114, Try.ntmps114
  go_wp2
  exact bodyPost_ret (v := .agg #[.int .i64 (c + d), .string s]) (by simp [results, Try.results114, go_sem]) rfl ⟨rfl, (((Below.refl _ _).alloc (Nat.le_refl _) _).alloc (by simp) _).alloc (by simp; omega) _⟩

/-- All below B as it was, but for the block bs. -/
structure BelowBut (bs B : Nat) (w w' : World) : Prop where
  os : w'.os = w.os
  tape : w'.tape = w.tape
  output : w'.output = w.output
  size : w.heap.size ≤ w'.heap.size
  block : ∀ k, k < B → k ≠ bs → w'.heap[k]? = w.heap[k]?
theorem BelowBut.refl (bs B : Nat) (w : World) : BelowBut bs B w w := ⟨rfl, rfl, rfl, Nat.le_refl _, fun _ _ _ => rfl⟩
theorem BelowBut.trans {bs B : Nat} {a b c : World} (h : BelowBut bs B a b) (k : BelowBut bs B b c) : BelowBut bs B a c :=
  ⟨k.os.trans h.os, k.tape.trans h.tape, k.output.trans h.output, Nat.le_trans h.size k.size, fun i hi hb => (k.block i hi hb).trans (h.block i hi hb)⟩
theorem BelowBut.of {B : Nat} {w w' : World} (bs : Nat) (h : Below B w w') : BelowBut bs B w w' := ⟨h.os, h.tape, h.output, h.size, fun k hk _ => h.block k hk⟩

abbrev SrT : TypeId := 101
abbrev CF : Value := .func (.func 88) #[] #[]
/-- The struct at bs holds the terms. -/
def HoldS (base bs : Nat) (acc : List Tm) (W : World) : Prop :=
  ∃ v, W.heap[bs]? = some (.cells #[v, CF] SrT (0, 0)) ∧ W.ownsRow base TI 2 v acc.length (termsV acc)

/-- What the calls of push share. -/
theorem push_cells {base bs : Nat} {acc : List Tm} {w : World} (h : HoldS base bs acc w) (hbs : bs < base) (hbase : base ≤ w.heap.size) (x : Tm) :
    ∃ v, (w.alloc (.cells #[.int .i64 x.c, .string x.s] TI)).cell? ⟨bs, 0, none⟩ = some v ∧ (w.alloc (.cells #[.int .i64 x.c, .string x.s] TI)).cell? ⟨bs, 1, none⟩ = some CF ∧
      (w.alloc (.cells #[.int .i64 x.c, .string x.s] TI)).cell? ⟨w.heap.size, 0, none⟩ = some (.int .i64 x.c) ∧ (w.alloc (.cells #[.int .i64 x.c, .string x.s] TI)).cell? ⟨w.heap.size, 1, none⟩ = some (.string x.s) ∧
      (w.alloc (.cells #[.int .i64 x.c, .string x.s] TI)).ownsRow base TI 2 v acc.length (termsV acc) ∧ (w.alloc (.cells #[.int .i64 x.c, .string x.s] TI)).heap[bs]? = some (.cells #[v, CF] SrT (0, 0)) ∧ ∀ j, v.ownBlock = some j → base ≤ j ∧ j < w.heap.size := by
  obtain ⟨v, hbx, hrow⟩ := h
  have hbV : Below w.heap.size w (w.alloc (.cells #[.int .i64 x.c, .string x.s] TI)) := (Below.refl _ _).alloc (Nat.le_refl _) _
  have hbxV := (hbV.block bs (by omega)).trans hbx
  have hxV : (w.alloc (.cells #[.int .i64 x.c, .string x.s] TI)).heap[w.heap.size]? = some (.cells #[.int .i64 x.c, .string x.s] TI (0, 0)) := World.alloc_heap_new _ _
  exact ⟨v, by simp [World.cell?, hbxV], by simp [World.cell?, hbxV], (by unfold World.cell?; rw [hxV]; rfl), (by unfold World.cell?; rw [hxV]; rfl), hrow.alloc _, hbxV, fun j ej => by
    rcases hrow.2 with ⟨rfl, _⟩ | ⟨g1, cap1, cur1, rfl, hg1, hg2, _⟩
    · cases ej
    · simp [Value.ownBlock] at ej
      subst ej
      exact ⟨hg1, (Array.getElem?_eq_some_iff.1 hg2).1⟩⟩

theorem HoldS.set {bs : Nat} {w : World} {v : Value} (h : w.heap[bs]? = some (.cells #[v, CF] SrT (0, 0))) (u : Value) : (w.setCell ⟨bs, 0, none⟩ u).heap[bs]? = some (.cells #[u, CF] SrT (0, 0)) := by
  simp [World.setCell, Array.getElem?_modify, h]
theorem bs_frozen {bs : Nat} {w : World} {v : Value} (h : w.heap[bs]? = some (.cells #[v, CF] SrT (0, 0))) : w.frozen? ⟨bs, 0, none⟩ = false := by
  simp [World.frozen?, h]
theorem frozen_past {w : World} {a : Addr} (h : w.frozen? a = false) (hb : a.block < w.heap.size) (o : Obj) : (w.alloc o).frozen? a = false :=
  (World.frozen?_of_block (w := w) (Below.heap_alloc w o a.block hb)).trans h
theorem ownLow {W : World} {base : Nat} {e : TypeId} {size : Nat} {v : Value} {n : Nat} {xs : List Value} (h : W.ownsRow base e size v n xs) : ∀ j, v.ownBlock = some j → base ≤ j := by
  intro j ej
  rcases h.2 with ⟨rfl, _⟩ | ⟨g1, cap1, cur1, rfl, hg1, _⟩
  · cases ej
  · simp [Value.ownBlock] at ej
    subst ej
    exact hg1
/-- What an append stored into the struct leaves. -/
theorem push_done {base bs m : Nat} {W w1 : World} {v v' : Value} {o : Obj} {us : List Tm} {xs zs : List Value} {n : Nat} (hbx : W.heap[bs]? = some (.cells #[v, CF] SrT (0, 0))) (hbs : bs < base) (hbase : base ≤ W.heap.size)
    (hrow : W.ownsRow base TI 2 v n zs) (hown1 : w1.ownsRow base TI 2 v' m xs) (hm : m = us.length) (hx : xs = termsV us) (hgrow : (W.drew.alloc o).grownBy w1 v.ownBlock) :
    HoldS base bs us (w1.setCell ⟨bs, 0, none⟩ v') ∧ BelowBut bs base W (w1.setCell ⟨bs, 0, none⟩ v') := by
  have hl := ownLow hrow
  have hB : Below base W w1 := ((Below.refl base W).drew.alloc (by show base ≤ W.heap.size; exact hbase) _).grown hgrow (by simp; show base ≤ W.heap.size + 1; omega) hl
  have h1 : w1.heap[bs]? = some (.cells #[v, CF] SrT (0, 0)) := (hB.block bs hbs).trans hbx
  refine ⟨⟨v', HoldS.set h1 v', ?_⟩, (BelowBut.of bs hB).trans ⟨rfl, rfl, rfl, (KeepsWalks.setCell w1 _ _).size, fun k _ hk => Below.heap_setCell _ _ _ k hk⟩⟩
  rw [← hm, ← hx]
  exact ownsRow_setCell_below hown1 hbs _

set_option maxRecDepth 100000 in
set_option maxHeartbeats 4000000 in
theorem push_empty (base bs : Nat) (x : Tm) (w : World) (h : HoldS base bs [] w) (hbs : bs < base) (hbase : base ≤ w.heap.size) :
    Calls Try.prog 146 #[.pointer (some ⟨bs, 0, none⟩), .agg #[.int .i64 x.c, .string x.s], .func (.func 114) #[] #[]] w fun e w' =>
      e = .returned (.tuple #[]) ∧ HoldS base bs [x] w' ∧ BelowBut bs base w w' := by
  have hmx : Try.prog.follows .mixedOrders = true := by kernel_rfl
  obtain ⟨i0, hi, hz0, hz1, hz2⟩ := info_parts infoTerm
  obtain ⟨v, s0, s1, x0, x1, hrow, hbx, hblk⟩ := push_cells h hbs hbase x
  obtain ⟨a, cap, rfl⟩ : ∃ a cap, v = .slice a 0 cap := by
    rcases hrow.2 with ⟨rfl, _⟩ | ⟨g, cap, cur, rfl, _⟩
    · exact ⟨_, _, rfl⟩
    · exact ⟨_, _, rfl⟩
  obtain ⟨N, hN⟩ : ∃ N, w.heap.size = N := ⟨_, rfl⟩
  have hs : (w.alloc (.cells #[.int .i64 x.c, .string x.s] TI)).heap.size = N + 1 := by simp [hN]
  have hbw : Below w.heap.size w (w.alloc (.cells #[.int .i64 x.c, .string x.s] TI)) := (Below.refl _ _).alloc (Nat.le_refl _) _
  rw [hN] at x0 x1 hbase hbw
  have HR := Lib.hid hrow
  have HBX := Lib.hid hbx
  have HS := Lib.hid hs
  have HBW := Lib.hid hbw
  have HN := Lib.hid hN
  clear hrow hbx hs h hbw
  go_enter Try.func146, Try.ntmps146
  go_wp2_with fail
  try rw [hN]
  generalize (w.alloc (.cells #[.int .i64 x.c, .string x.s] TI)) = V at *
  refine wp_region_below hmx (by kernel_rfl) ?_
  repeat (((with_reducible refine wpQuiet_step (fun K hK => ?_)); go_simp; first | ((with_reducible refine hK _ ?_); clear hK K) | (refine (if_neg (by decide)).mpr ?_; (with_reducible refine hK _ ?_); clear hK K)))
  with_reducible refine wpQuiet_nil ?_
  rintro W ⟨⟨W, hW⟩, rfl⟩
  have y0 := (hW.cell (p := ⟨bs, 0, none⟩) (by show bs < _; rw [HS.out]; omega)).trans s0
  have y1 := (hW.cell (p := ⟨N, 0, none⟩) (by show N < _; rw [HS.out]; omega)).trans x0
  have y2 := (hW.cell (p := ⟨N, 1, none⟩) (by show N < _; rw [HS.out]; omega)).trans x1
  have hrW : W.ownsRow base TI 2 (.slice a 0 cap) 0 [] := OwnT.below (ts := []) HR.out hW
  have hbW : W.heap[bs]? = some (.cells #[.slice a 0 cap, CF] SrT (0, 0)) := (hW.block bs (by rw [HS.out]; omega)).trans HBX.out
  have hsz : N + 1 ≤ W.heap.size := by rw [← HS.out]; exact hW.size
  have HBB : Hid (BelowBut bs base w W) := Lib.hid ((BelowBut.of bs (HBW.out.mono hbase)).trans (BelowBut.of bs (hW.mono (by rw [HS.out]; omega))))
  change Exit.then _ _ _ _ W
  clear s0 s1 x0 x1 hW HR HBX HS HBW
  have HRW := Lib.hid hrW
  have HBXW := Lib.hid hbW
  have hf := bs_frozen hbW
  clear hrW hbW
  have hbs2 : bs < W.heap.size := by omega
  have hne : some bs ≠ (Value.slice a 0 cap).ownBlock := fun e => by have := (hblk bs e.symm).1; omega
  have hneN : some N ≠ (Value.slice a 0 cap).ownBlock := fun e => by have := (hblk N e.symm).2; omega
  have hNlt : N < W.heap.size := by omega
  clear hblk
  go_wp2_with fail
  have hwr : W.drew.heap.size = W.heap.size := rfl
  go_region_law
    ((refine step_append_lies _ (by rfl) _ _ _ (by rfl) base TI i0 _ 2 24 Try.underlying25 hi hz0 hz1 hz2 rfl (by omega) (.slice a 0 cap) 0 [] (by rfl) ((HRW.out.alloc _).drew)
        ⟨W.heap.size, 0, none⟩ 1 1 [.int .i64 x.c, .string x.s] (by rfl) (by rfl) (World.news_of_block (cs := #[.int .i64 x.c, .string x.s]) (t := TI) (fr := (0, 0)) (heap_alloc_new W _)) (by simp [Value.oneCell'])
        (by omega) (by decide) (by decide) (by simp; omega) (W.heap.size + 1) (by simp) ?_; intro gg cap1 w1 hown1 hgrow hat hlt; have hf1 : w1.frozen? ⟨bs, 0, none⟩ = false := (hgrow.frozen_far _ (by simp; omega) hne).trans (frozen_past hf hbs2 _); have hc1 : w1.cell? ⟨bs, 0, none⟩ = some (.slice a 0 cap) := (hgrow.cell_far _ (by simp; omega) hne).trans (cell_past (cell_drawn y0) _)))
  all_goals
    obtain ⟨d1, d2⟩ := push_done (us := [x]) HBXW.out hbs (by omega) HRW.out hown1 rfl rfl hgrow
    exact bodyPost_end (results_none rfl _ _ _) rfl ⟨rfl, d1, HBB.out.trans d2⟩

theorem add_off (g n : Nat) : (⟨g, 0, none⟩ : Addr).add n = ⟨g, n, none⟩ := by
  unfold Addr.add
  by_cases h : n = 0
  · subst h; simp
  · simp [h]
theorem compareBytes_zero : ∀ a b : List UInt8, Lib.compareBytes a b = 0 → a = b
  | [], [], _ => rfl
  | [], _ :: _, h => by simp [Lib.compareBytes] at h
  | _ :: _, [], h => by simp [Lib.compareBytes] at h
  | a :: ar, b :: bs, h => by
    unfold Lib.compareBytes at h
    by_cases h1 : a < b
    · rw [if_pos h1] at h; cases h
    · by_cases h2 : b < a
      · rw [if_neg h1, if_pos h2] at h; cases h
      · rw [if_neg h1, if_neg h2] at h
        rw [compareBytes_zero ar bs h]
        have : a = b := by
          apply UInt8.toNat_inj.1
          rw [UInt8.lt_iff_toNat_lt] at h1 h2
          omega
        rw [this]
theorem cmpW_zero {a b : ByteArray} (h : cmpW a b = 0) : a = b := by
  unfold cmpW orInt at h
  split at h
  · exact ByteArray.ext (Array.ext' (compareBytes_zero _ _ h))
  · rename_i h0
    exact absurd h (by first | exact h0 | simpa using h0)
theorem compareBytes_self : ∀ a : List UInt8, Lib.compareBytes a a = 0
  | [] => rfl
  | a :: ar => by
    unfold Lib.compareBytes
    rw [if_neg (by rw [UInt8.lt_iff_toNat_lt]; omega), if_neg (by rw [UInt8.lt_iff_toNat_lt]; omega)]
    exact compareBytes_self ar
theorem cmpW_self (a : ByteArray) : cmpW a a = 0 := by
  unfold cmpW orInt Lib.compareInt
  simp [compareBytes_self]

set_option maxRecDepth 100000 in
set_option maxHeartbeats 4000000 in
theorem push_more (base bs : Nat) (pre : List Tm) (l x : Tm) (w : World) (h : HoldS base bs (pre ++ [l]) w) (hls : l.s ≠ x.s) (hlen : pre.length ≤ 1000000) (hbs : bs < base) (hbase : base ≤ w.heap.size) :
    Calls Try.prog 146 #[.pointer (some ⟨bs, 0, none⟩), .agg #[.int .i64 x.c, .string x.s], .func (.func 114) #[] #[]] w fun e w' =>
      e = .returned (.tuple #[]) ∧ HoldS base bs (pre ++ [l] ++ [x]) w' ∧ BelowBut bs base w w' := by
  have hmx : Try.prog.follows .mixedOrders = true := by kernel_rfl
  obtain ⟨i0, hi, hz0, hz1, hz2⟩ := info_parts infoTerm
  obtain ⟨v, s0, s1, x0, x1, hrow, hbx, hblk⟩ := push_cells h hbs hbase x
  obtain ⟨g, cap, rfl⟩ : ∃ g cap, v = .slice (some ⟨g, 0, none⟩) (pre ++ [l]).length cap := by
    rcases hrow.2 with ⟨rfl, h0⟩ | ⟨g, cap, cur, rfl, _⟩
    · rw [List.length_append] at h0; simp at h0
    · exact ⟨_, _, rfl⟩
  have hta := termsAt_of_owns rfl hrow
  obtain ⟨hgb, hgN⟩ := hblk g rfl
  obtain ⟨l0, l1⟩ := hta.2 pre.length (by rw [List.length_append]; exact Nat.lt_succ_self _)
  rw [List.getElem_append_right (Nat.le_refl _)] at l0 l1
  simp only [Nat.sub_self, List.getElem_cons_zero] at l0 l1
  rw [addr_next] at l1
  obtain ⟨k, hk⟩ : ∃ k, pre.length = k := ⟨_, rfl⟩
  have hll : (pre ++ [l]).length = k + 1 := by rw [List.length_append, hk]; rfl
  have hw1 : IntKind.i64.wrap (((k + 1 : Nat) : Int) - 1) = (k : Int) := by rw [IntWalk.i64_in _ (by omega)]; omega
  have hw2 : IntKind.i64.wrap ((k : Int) + 1 - 1) = (k : Int) := by rw [IntWalk.i64_in _ (by omega)]; omega
  rw [hk] at l0 l1 hlen
  rw [hll] at hrow s0 hbx hblk
  obtain ⟨us, hus⟩ : ∃ us, pre ++ [l] = us := ⟨_, rfl⟩
  rw [hus] at hrow ⊢
  have HLL := Lib.hid hll
  have HUS := Lib.hid hus
  have HK := Lib.hid hk
  clear hll hus hta hk
  obtain ⟨N, hN⟩ : ∃ N, w.heap.size = N := ⟨_, rfl⟩
  have hs : (w.alloc (.cells #[.int .i64 x.c, .string x.s] TI)).heap.size = N + 1 := by simp [hN]
  have hbw : Below w.heap.size w (w.alloc (.cells #[.int .i64 x.c, .string x.s] TI)) := (Below.refl _ _).alloc (Nat.le_refl _) _
  rw [hN] at x0 x1 hbase hbw
  have HR := Lib.hid hrow
  have HBX := Lib.hid hbx
  have HS := Lib.hid hs
  have HBW := Lib.hid hbw
  have HN := Lib.hid hN
  obtain ⟨v, hv⟩ : ∃ v, cmpW l.s x.s = v := ⟨_, rfl⟩
  have HC : Hid (∀ W : World, Calls Try.prog 88 #[.agg #[.int .i64 l.c, .string l.s], .agg #[.int .i64 x.c, .string x.s]] W fun e w' => e = .returned (.int .i64 v) ∧ Below W.heap.size W w') := Lib.hid (fun W => by
    rw [← hv]
    exact (compareTerms_any l x W).mono fun _ _ ⟨h1, h2⟩ => ⟨h1, h2.below⟩)
  have hk0 : (0 : Int) ≤ (k : Int) := Int.natCast_nonneg _
  have hk1 : (k : Int) < (k : Int) + 1 := by omega
  have hk2 : (k : Int) < ((k + 1 : Nat) : Int) := by omega
  have hv0 : v ≠ 0 := fun e => hls (cmpW_zero (hv.trans e))
  have hd0 : (v == 0) = false := by simpa using hv0
  have hd1 : decide (v = 0) = false := by simpa using hv0
  have v0 := BelowBy.cell (a := ⟨bs, 0, none⟩) (by show bs < _; rw [hs]; omega) s0
  have v1 := BelowBy.cell (a := ⟨bs, 1, none⟩) (by show bs < _; rw [hs]; omega) s1
  have v2 := BelowBy.cell (a := ⟨N, 0, none⟩) (by show N < _; rw [hs]; omega) x0
  have v3 := BelowBy.cell (a := ⟨N, 1, none⟩) (by show N < _; rw [hs]; omega) x1
  simp only [add_off] at l0 l1
  have v4 := BelowBy.cell (a := ⟨g, k * 2, none⟩) (by rw [hs]; show g < _; omega) l0
  have v5 := BelowBy.cell (a := ⟨g, k * 2 + 1, none⟩) (by rw [hs]; show g < _; omega) l1
  clear hrow hbx hs h hbw hv l0 l1
  go_enter Try.func146, Try.ntmps146
  go_wp2_with fail
  try rw [hN]
  generalize (w.alloc (.cells #[.int .i64 x.c, .string x.s] TI)) = V at *
  refine wp_region_below hmx (by kernel_rfl) ?_
  repeat (((with_reducible refine wpQuiet_step (fun K hK => ?_)); go_simp; first | ((with_reducible refine hK _ ?_); clear hK K) | (refine (if_neg (by decide)).mpr ?_; (with_reducible refine hK _ ?_); clear hK K) | (apply Exists.intro; (with_reducible refine ⟨fun _ => ?_, hK _ ?_⟩); (go_at_call 88; exact Calls.bel (HC.out _)); clear hK K)))
  with_reducible refine wpQuiet_nil ?_
  rintro W ⟨⟨W, hW⟩, rfl⟩
  have y0 := (hW.cell (p := ⟨bs, 0, none⟩) (by show bs < _; rw [HS.out]; omega)).trans s0
  have y1 := (hW.cell (p := ⟨N, 0, none⟩) (by show N < _; rw [HS.out]; omega)).trans x0
  have y2 := (hW.cell (p := ⟨N, 1, none⟩) (by show N < _; rw [HS.out]; omega)).trans x1
  have hrW : W.ownsRow base TI 2 (.slice (some ⟨g, 0, none⟩) (k + 1) cap) (k + 1) (termsV us) := by
    have := HR.out
    rw [← HLL.out, HUS.out] at this ⊢
    exact OwnT.below this hW
  have hbW : W.heap[bs]? = some (.cells #[.slice (some ⟨g, 0, none⟩) (k + 1) cap, CF] SrT (0, 0)) := (hW.block bs (by rw [HS.out]; omega)).trans HBX.out
  have hsz : N + 1 ≤ W.heap.size := by rw [← HS.out]; exact hW.size
  have HBB : Hid (BelowBut bs base w W) := Lib.hid ((BelowBut.of bs (HBW.out.mono hbase)).trans (BelowBut.of bs (hW.mono (by rw [HS.out]; omega))))
  change Exit.then _ _ _ _ W
  clear s0 s1 x0 x1 v0 v1 v2 v3 v4 v5 hW HR HBX HS HBW
  have HRW := Lib.hid hrW
  have HBXW := Lib.hid hbW
  have hf := bs_frozen hbW
  clear hrW hbW
  have hbs2 : bs < W.heap.size := by omega
  have hne : some bs ≠ (Value.slice (some ⟨g, 0, none⟩) (k + 1) cap).ownBlock := fun e => by have := (hblk bs e.symm).1; omega
  have hneN : some N ≠ (Value.slice (some ⟨g, 0, none⟩) (k + 1) cap).ownBlock := fun e => by have := (hblk N e.symm).2; omega
  have hNlt : N < W.heap.size := by omega
  clear hblk
  go_wp2_with fail
  have hwr : W.drew.heap.size = W.heap.size := rfl
  go_region_law
    ((refine step_append_lies _ (by rfl) _ _ _ (by rfl) base TI i0 _ 2 24 Try.underlying25 hi hz0 hz1 hz2 rfl (by omega) (.slice (some ⟨g, 0, none⟩) (k + 1) cap) (k + 1) (termsV us) (by rfl) ((HRW.out.alloc _).drew)
        ⟨W.heap.size, 0, none⟩ 1 1 [.int .i64 x.c, .string x.s] (by rfl) (by rfl) (World.news_of_block (cs := #[.int .i64 x.c, .string x.s]) (t := TI) (fr := (0, 0)) (heap_alloc_new W _)) (by simp [Value.oneCell'])
        (by omega) (by unfold maxLen; omega) (by omega) (by simp; omega) (W.heap.size + 1) (by simp) ?_; intro gg cap1 w1 hown1 hgrow hat hlt; have hf1 : w1.frozen? ⟨bs, 0, none⟩ = false := (hgrow.frozen_far _ (by simp; omega) hne).trans (frozen_past hf hbs2 _); have hc1 : w1.cell? ⟨bs, 0, none⟩ = some (.slice (some ⟨g, 0, none⟩) (k + 1) cap) := (hgrow.cell_far _ (by simp; omega) hne).trans (cell_past (cell_drawn y0) _)))
  all_goals
    obtain ⟨d1, d2⟩ := push_done (us := us ++ [x]) HBXW.out hbs (by omega) HRW.out hown1 (by rw [List.length_append, ← HUS.out, HLL.out]; rfl) (by rw [termsV_append]; rfl) hgrow
    exact bodyPost_end (results_none rfl _ _ _) rfl ⟨rfl, d1, HBB.out.trans d2⟩

end Go.Proofs.Ytebgcebjlbhjjab

/- The contract of the program's 'push'. -/

namespace Go.Proofs.Ytebgcebjlbhjjab
open Go.RowKit Go.Shelf

theorem set_last (pre : List Tm) (l : Tm) (c : Int) (k : Nat) (hk : pre.length = k) :
    ((termsV (pre ++ [l])).set (k * 2) (.int .i64 c)).set (k * 2 + 1) (.string l.s) = termsV (pre ++ [⟨c, l.s⟩]) := by
  have hl := termsV_len pre
  rw [hk] at hl
  rw [termsV_append, termsV_append, List.set_append_right _ _ (by omega), List.set_append_right _ _ (by omega), hl, Nat.sub_self, show k * 2 + 1 - k * 2 = 1 by omega]
  rfl
/-- What the join that is stored leaves. -/
theorem join_done {base bs g k cap : Nat} {w W w2 : World} {pre us : List Tm} {l : Tm} {c : Int} (HBB : BelowBut bs base w W) (hb2 : Below W.drew.heap.size W.drew w2)
    (hbx : W.heap[bs]? = some (.cells #[.slice (some ⟨g, 0, none⟩) (k + 1) cap, CF] SrT (0, 0))) (hrow : W.ownsRow base TI 2 (.slice (some ⟨g, 0, none⟩) (k + 1) cap) (k + 1) (termsV us))
    (hus : pre ++ [l] = us) (hk : pre.length = k) (hbs : bs < base) (hgb : base ≤ g) (hbase : base ≤ W.heap.size) :
    HoldS base bs (pre ++ [⟨c, l.s⟩]) ((w2.setCell ⟨g, k * 2, none⟩ (.int .i64 c)).setCell ⟨g, k * 2 + 1, none⟩ (.string l.s)) ∧
      BelowBut bs base w ((w2.setCell ⟨g, k * 2, none⟩ (.int .i64 c)).setCell ⟨g, k * 2 + 1, none⟩ (.string l.s)) := by
  subst hus
  have hB : Below W.heap.size W w2 := (Below.refl _ W).drew.trans hb2
  have hll : (pre ++ [l]).length = k + 1 := by rw [List.length_append, hk]; rfl
  have hr2 : w2.ownsRow base TI 2 (.slice (some ⟨g, 0, none⟩) (k + 1) cap) (k + 1) (termsV (pre ++ [l])) := by
    rw [← hll] at hrow ⊢
    exact OwnT.below hrow hB
  have hst := ((hr2.stored (k * 2) (.int .i64 c)).1.stored (k * 2 + 1) (.string l.s)).1
  rw [set_last pre l c k hk] at hst
  have hb3 : Below base W ((w2.setCell ⟨g, k * 2, none⟩ (.int .i64 c)).setCell ⟨g, k * 2 + 1, none⟩ (.string l.s)) :=
    ((hB.mono hbase).setCell (p := ⟨g, k * 2, none⟩) hgb _).setCell (p := ⟨g, k * 2 + 1, none⟩) hgb _
  have hl2 : (pre ++ [(⟨c, l.s⟩ : Tm)]).length = k + 1 := by rw [List.length_append, hk]; rfl
  exact ⟨⟨_, (hb3.block bs hbs).trans hbx, by rw [hl2]; exact hst⟩, HBB.trans (BelowBut.of bs hb3)⟩

set_option maxRecDepth 100000 in
set_option maxHeartbeats 4000000 in
theorem push_join (base bs : Nat) (pre : List Tm) (l x : Tm) (w : World) (h : HoldS base bs (pre ++ [l]) w) (hls : l.s = x.s) (hsum : -9223372036854775808 ≤ l.c + x.c ∧ l.c + x.c ≤ 9223372036854775807) (hlen : pre.length ≤ 1000000) (hbs : bs < base) (hbase : base ≤ w.heap.size) :
    Calls Try.prog 146 #[.pointer (some ⟨bs, 0, none⟩), .agg #[.int .i64 x.c, .string x.s], .func (.func 114) #[] #[]] w fun e w' =>
      e = .returned (.tuple #[]) ∧ HoldS base bs (pre ++ [⟨l.c + x.c, l.s⟩]) w' ∧ BelowBut bs base w w' := by
  have hmx : Try.prog.follows .mixedOrders = true := by kernel_rfl
  obtain ⟨i0, hi, hz0, hz1, hz2⟩ := info_parts infoTerm
  obtain ⟨v, s0, s1, x0, x1, hrow, hbx, hblk⟩ := push_cells h hbs hbase x
  obtain ⟨g, cap, rfl⟩ : ∃ g cap, v = .slice (some ⟨g, 0, none⟩) (pre ++ [l]).length cap := by
    rcases hrow.2 with ⟨rfl, h0⟩ | ⟨g, cap, cur, rfl, _⟩
    · rw [List.length_append] at h0; simp at h0
    · exact ⟨_, _, rfl⟩
  have hta := termsAt_of_owns rfl hrow
  obtain ⟨hgb, hgN⟩ := hblk g rfl
  obtain ⟨l0, l1⟩ := hta.2 pre.length (by rw [List.length_append]; exact Nat.lt_succ_self _)
  rw [List.getElem_append_right (Nat.le_refl _)] at l0 l1
  simp only [Nat.sub_self, List.getElem_cons_zero] at l0 l1
  rw [addr_next] at l1
  obtain ⟨k, hk⟩ : ∃ k, pre.length = k := ⟨_, rfl⟩
  have hll : (pre ++ [l]).length = k + 1 := by rw [List.length_append, hk]; rfl
  have hw1 : IntKind.i64.wrap (((k + 1 : Nat) : Int) - 1) = (k : Int) := by rw [IntWalk.i64_in _ (by omega)]; omega
  have hw2 : IntKind.i64.wrap ((k : Int) + 1 - 1) = (k : Int) := by rw [IntWalk.i64_in _ (by omega)]; omega
  rw [hk] at l0 l1 hlen
  rw [hll] at hrow s0 hbx hblk
  obtain ⟨us, hus⟩ : ∃ us, pre ++ [l] = us := ⟨_, rfl⟩
  rw [hus] at hrow
  have HLL := Lib.hid hll
  have HUS := Lib.hid hus
  have HK := Lib.hid hk
  clear hll hus hta hk
  obtain ⟨N, hN⟩ : ∃ N, w.heap.size = N := ⟨_, rfl⟩
  have hs : (w.alloc (.cells #[.int .i64 x.c, .string x.s] TI)).heap.size = N + 1 := by simp [hN]
  have hbw : Below w.heap.size w (w.alloc (.cells #[.int .i64 x.c, .string x.s] TI)) := (Below.refl _ _).alloc (Nat.le_refl _) _
  rw [hN] at x0 x1 hbase hbw
  have HR := Lib.hid hrow
  have HBX := Lib.hid hbx
  have HS := Lib.hid hs
  have HBW := Lib.hid hbw
  have HN := Lib.hid hN
  have HC : Hid (∀ W : World, Calls Try.prog 88 #[.agg #[.int .i64 l.c, .string l.s], .agg #[.int .i64 x.c, .string x.s]] W fun e w' => e = .returned (.int .i64 0) ∧ Below W.heap.size W w') := Lib.hid (fun W => by
    have hv0 : cmpW l.s x.s = 0 := by rw [hls]; exact cmpW_self _
    rw [← hv0]
    exact (compareTerms_any l x W).mono fun _ _ ⟨h1, h2⟩ => ⟨h1, h2.below⟩)
  have HLS := Lib.hid hls
  have HSUM := Lib.hid hsum
  have hk0 : (0 : Int) ≤ (k : Int) := Int.natCast_nonneg _
  have hk1 : (k : Int) < (k : Int) + 1 := by omega
  have hk2 : (k : Int) < ((k + 1 : Nat) : Int) := by omega
  have v0 := BelowBy.cell (a := ⟨bs, 0, none⟩) (by show bs < _; rw [hs]; omega) s0
  have v1 := BelowBy.cell (a := ⟨bs, 1, none⟩) (by show bs < _; rw [hs]; omega) s1
  have v2 := BelowBy.cell (a := ⟨N, 0, none⟩) (by show N < _; rw [hs]; omega) x0
  have v3 := BelowBy.cell (a := ⟨N, 1, none⟩) (by show N < _; rw [hs]; omega) x1
  simp only [add_off] at l0 l1
  have v4 := BelowBy.cell (a := ⟨g, k * 2, none⟩) (by rw [hs]; show g < _; omega) l0
  have v5 := BelowBy.cell (a := ⟨g, k * 2 + 1, none⟩) (by rw [hs]; show g < _; omega) l1
  clear hrow hbx hs h hbw hls hsum
  go_enter Try.func146, Try.ntmps146
  go_wp2_with fail
  try rw [hN]
  generalize (w.alloc (.cells #[.int .i64 x.c, .string x.s] TI)) = V at *
  refine wp_region_below hmx (by kernel_rfl) ?_
  repeat (((with_reducible refine wpQuiet_step (fun K hK => ?_)); go_simp; first | ((with_reducible refine hK _ ?_); clear hK K) | (refine (if_neg (by decide)).mpr ?_; (with_reducible refine hK _ ?_); clear hK K) | (apply Exists.intro; (with_reducible refine ⟨fun _ => ?_, hK _ ?_⟩); (go_at_call 88; exact Calls.bel (HC.out _)); clear hK K)))
  with_reducible refine wpQuiet_nil ?_
  rintro W ⟨⟨W, hW⟩, rfl⟩
  have y0 := (hW.cell (p := ⟨bs, 0, none⟩) (by show bs < _; rw [HS.out]; omega)).trans s0
  have y1 := (hW.cell (p := ⟨N, 0, none⟩) (by show N < _; rw [HS.out]; omega)).trans x0
  have y2 := (hW.cell (p := ⟨N, 1, none⟩) (by show N < _; rw [HS.out]; omega)).trans x1
  have hrW : W.ownsRow base TI 2 (.slice (some ⟨g, 0, none⟩) (k + 1) cap) (k + 1) (termsV us) := by
    have := HR.out
    rw [← HLL.out, HUS.out] at this ⊢
    exact OwnT.below this hW
  have hbW : W.heap[bs]? = some (.cells #[.slice (some ⟨g, 0, none⟩) (k + 1) cap, CF] SrT (0, 0)) := (hW.block bs (by rw [HS.out]; omega)).trans HBX.out
  have hsz : N + 1 ≤ W.heap.size := by rw [← HS.out]; exact hW.size
  have HBB : Hid (BelowBut bs base w W) := Lib.hid ((BelowBut.of bs (HBW.out.mono hbase)).trans (BelowBut.of bs (hW.mono (by rw [HS.out]; omega))))
  change Exit.then _ _ _ _ W
  have y3 := (hW.cell (p := ⟨g, k * 2, none⟩) (by show g < _; rw [HS.out]; omega)).trans l0
  have y4 := (hW.cell (p := ⟨g, k * 2 + 1, none⟩) (by show g < _; rw [HS.out]; omega)).trans l1
  clear s0 s1 x0 x1 l0 l1 v0 v1 v2 v3 v4 v5 hW HR HBX HS HBW
  have HRW := Lib.hid hrW
  have HBXW := Lib.hid hbW
  have hf3 : W.frozen? ⟨g, k * 2, none⟩ = false := hrW.frozenAt (k * 2)
  have hf4 : W.frozen? ⟨g, k * 2 + 1, none⟩ = false := hrW.frozenAt (k * 2 + 1)
  clear hrW hbW
  have hbs2 : bs < W.heap.size := by omega
  have hg2 : g < W.heap.size := by omega
  clear hblk
  go_wp2_with fail
  go_region_with ((go_at_call 114; refine (joinTerms_any l x _ HSUM.out).mono ?_; rintro e w2 ⟨rfl, hb2⟩; have z0 := (hb2.cell (p := ⟨bs, 0, none⟩) hbs2).trans y0; have z3 := (hb2.cell (p := ⟨g, k * 2, none⟩) hg2).trans y3; have z4 := (hb2.cell (p := ⟨g, k * 2 + 1, none⟩) hg2).trans y4; have f3 := (hb2.frozen (p := ⟨g, k * 2, none⟩) hg2).trans hf3; have f4 := (hb2.frozen (p := ⟨g, k * 2 + 1, none⟩) hg2).trans hf4))
  all_goals
    go_wp2
    exact bodyPost_ret (results_none rfl _ _ _) rfl ⟨rfl, join_done HBB.out hb2 HBXW.out HRW.out HUS.out HK.out hbs hgb (by omega)⟩

end Go.Proofs.Ytebgcebjlbhjjab

/- The contracts of the program's 'push' (all ways in one) and 'gathered'. -/

namespace Go.Proofs.Ytebgcebjlbhjjab
open Go.RowKit Go.Shelf

theorem push_any (base bs : Nat) (acc : List Tm) (x : Tm) (w : World) (h : HoldS base bs acc w) (hbs : bs < base) (hbase : base ≤ w.heap.size) (hlen : acc.length ≤ 1000000)
    (hsum : ∀ l, acc.getLast? = some l → -9223372036854775808 ≤ l.c + x.c ∧ l.c + x.c ≤ 9223372036854775807) :
    Calls Try.prog 146 #[.pointer (some ⟨bs, 0, none⟩), .agg #[.int .i64 x.c, .string x.s], .func (.func 114) #[] #[]] w fun e w' =>
      e = .returned (.tuple #[]) ∧ HoldS base bs (pushT acc x) w' ∧ BelowBut bs base w w' := by
  rcases List.eq_nil_or_concat acc with rfl | ⟨pre, l, rfl⟩
  · exact push_empty base bs x w h hbs hbase
  · rw [List.concat_eq_append] at *
    have hp : pre.length ≤ 1000000 := by rw [List.length_append] at hlen; omega
    by_cases hls : l.s = x.s
    · rw [push_last, if_pos hls]
      exact push_join base bs pre l x w h hls (hsum l (by simp)) hp hbs hbase
    · rw [push_last, if_neg hls]
      exact push_more base bs pre l x w h hls hp hbs hbase

theorem push_len (acc : List Tm) (t : Tm) : (pushT acc t).length ≤ acc.length + 1 := by
  rcases List.eq_nil_or_concat acc with rfl | ⟨b, l, rfl⟩
  · rw [push_nil]; simp
  · rw [List.concat_eq_append, push_last]; split <;> simp
theorem push_bnd {acc : List Tm} {t : Tm} {B C : Int} (h : ∀ u ∈ acc, -B ≤ u.c ∧ u.c ≤ B) (ht : -C ≤ t.c ∧ t.c ≤ C) (hB : 0 ≤ B) (hC : 0 ≤ C) : ∀ u ∈ pushT acc t, -(B + C) ≤ u.c ∧ u.c ≤ B + C := by
  intro u hu
  rcases List.eq_nil_or_concat acc with rfl | ⟨b, l, rfl⟩
  · rw [push_nil] at hu; rw [List.mem_singleton.1 hu]; omega
  · rw [List.concat_eq_append] at *
    rw [push_last] at hu
    have hl := h l (by simp)
    split at hu
    · rcases List.mem_append.1 hu with hu | hu
      · have := h u (by simp [hu]); omega
      · rw [List.mem_singleton.1 hu]; show -(B + C) ≤ l.c + t.c ∧ l.c + t.c ≤ B + C; omega
    · rcases List.mem_append.1 hu with hu | hu
      · have := h u hu; omega
      · rw [List.mem_singleton.1 hu]; omega
theorem merge_take {ts : List Tm} {k : Nat} (hk : k < ts.length) : mergeT (ts.take (k + 1)) = pushT (mergeT (ts.take k)) ts[k] := by
  unfold mergeT
  rw [List.take_add_one, List.getElem?_eq_getElem hk, List.foldl_append]
  rfl
theorem merge_len (ts : List Tm) : ∀ k, (mergeT (ts.take k)).length ≤ k
  | 0 => by simp [mergeT]
  | k + 1 => by
    by_cases hk : k < ts.length
    · rw [merge_take hk]
      have := push_len (mergeT (ts.take k)) ts[k]
      have := merge_len ts k
      omega
    · have := merge_len ts k
      rw [List.take_of_length_le (by omega)] at this ⊢
      omega
theorem merge_bnd {ts : List Tm} {C : Int} (hC : 0 ≤ C) (h : ∀ u ∈ ts, -C ≤ u.c ∧ u.c ≤ C) : ∀ k : Nat, ∀ u ∈ mergeT (ts.take k), -(C * k) ≤ u.c ∧ u.c ≤ C * k
  | 0, u, hu => by simp [mergeT] at hu
  | k + 1, u, hu => by
    have e : C * ((k + 1 : Nat) : Int) = C * k + C := by rw [Int.natCast_add, Int.mul_add]; simp
    have hk0 : 0 ≤ C * (k : Int) := Int.mul_nonneg hC (Int.natCast_nonneg _)
    rw [e]
    by_cases hk : k < ts.length
    · rw [merge_take hk] at hu
      exact push_bnd (merge_bnd hC h k) (h _ (List.getElem_mem hk)) hk0 hC u hu
    · rw [List.take_of_length_le (by omega)] at hu
      have := merge_bnd hC h k u (by rw [List.take_of_length_le (by omega)]; exact hu)
      omega
theorem merge_all (ts : List Tm) : mergeT (ts.take ts.length) = mergeT ts := by rw [List.take_of_length_le (Nat.le_refl _)]

theorem HoldS.alloc {base bs : Nat} {acc : List Tm} {w : World} (h : HoldS base bs acc w) (hb : bs < w.heap.size) (o : Obj) : HoldS base bs acc (w.alloc o) := by
  obtain ⟨v, h1, h2⟩ := h
  exact ⟨v, (Below.heap_alloc _ _ _ hb).trans h1, h2.alloc _⟩
theorem smallT_perm {ss ts : List Tm} (hp : ss.Perm ts) (hl : ts.length ≤ maxLen) (h : ∀ t ∈ ts, t.s.size ≤ maxLen ∧ -9223372036854775808 ≤ t.c ∧ t.c ≤ 9223372036854775807) : SmallT ss :=
  ⟨by rw [hp.length_eq]; exact hl, fun t ht => h t (hp.mem_iff.1 ht)⟩

set_option maxRecDepth 100000 in
set_option maxHeartbeats 2000000 in
/-- The program's 'gathered' at terms. -/
theorem gathered_any (a : Option Addr) (cap n : Nat) (ts : List Tm) (w : World) (hs : IsTerms w a n ts) (hn : n ≤ 100000) (hc : ∀ t ∈ ts, -1000000000000 ≤ t.c ∧ t.c ≤ 1000000000000) :
    Calls Try.prog 113 #[.slice a n cap, CF, .func (.func 114) #[] #[]] w fun e w' =>
      (∃ v, e = .returned (.agg #[v, CF]) ∧ ∃ ss : List Tm, ss.Perm ts ∧ ss.Pairwise (fun a b => lessW b.s a.s = false) ∧ OwnT w.heap.size w' v (mergeT ss)) ∧ Below w.heap.size w w' := by
  have HS := Lib.hid hs
  have HC := Lib.hid hc
  clear hs hc
  go_enter Try.func113, Try.ntmps113
  go_wp2_with fail
  refine (valuesT_any a n cap _).mono ?_
  rintro e w2 ⟨rfl, rfl⟩
  obtain ⟨N, hN⟩ : ∃ N, w.heap.size = N := ⟨_, rfl⟩
  have q0 : ((((w.alloc (.cells #[.slice none 0 0, .nilFunc] SrT)).alloc (.cells #[.slice none 0 0, CF] SrT)).alloc (.cells #[.slice a n cap] ST))).heap[N]? = some (.cells #[.slice none 0 0, .nilFunc] SrT (0, 0)) := by
    rw [← hN, Below.heap_alloc _ _ _ (by simp; omega), Below.heap_alloc _ _ _ (by simp)]
    exact World.alloc_heap_new _ _
  have q1 : ((((w.alloc (.cells #[.slice none 0 0, .nilFunc] SrT)).alloc (.cells #[.slice none 0 0, CF] SrT)).alloc (.cells #[.slice a n cap] ST))).heap[N + 1]? = some (.cells #[.slice none 0 0, CF] SrT (0, 0)) := by
    rw [← hN, Below.heap_alloc _ _ _ (by simp)]
    have := World.alloc_heap_new (w.alloc (.cells #[.slice none 0 0, .nilFunc] SrT)) (.cells #[.slice none 0 0, CF] SrT)
    simpa using this
  have q2 : ((((w.alloc (.cells #[.slice none 0 0, .nilFunc] SrT)).alloc (.cells #[.slice none 0 0, CF] SrT)).alloc (.cells #[.slice a n cap] ST))).cell? ⟨N + 2, 0, none⟩ = some (.slice a n cap) := by
    have := World.alloc_heap_new ((w.alloc (.cells #[.slice none 0 0, .nilFunc] SrT)).alloc (.cells #[.slice none 0 0, CF] SrT)) (.cells #[.slice a n cap] ST)
    simp only [World.size_alloc, hN] at this
    unfold World.cell?
    rw [show N + 2 = N + 1 + 1 from rfl, this]
    rfl
  have hsz : ((((w.alloc (.cells #[.slice none 0 0, .nilFunc] SrT)).alloc (.cells #[.slice none 0 0, CF] SrT)).alloc (.cells #[.slice a n cap] ST))).heap.size = N + 3 := by simp [hN]
  have hbV : Below w.heap.size w ((((w.alloc (.cells #[.slice none 0 0, .nilFunc] SrT)).alloc (.cells #[.slice none 0 0, CF] SrT)).alloc (.cells #[.slice a n cap] ST))) := (((Below.refl _ _).alloc (Nat.le_refl _) _).alloc (by simp) _).alloc (by simp; omega) _
  simp only [World.size_alloc, hN]
  generalize ((((w.alloc (.cells #[.slice none 0 0, .nilFunc] SrT)).alloc (.cells #[.slice none 0 0, CF] SrT)).alloc (.cells #[.slice a n cap] ST))) = V at *
  have HS2 : Hid (0 < n → ∃ x, a = some x ∧ TermsAt V x ts) := Lib.hid (HS.out.below hbV).at_
  have HQ0 := Lib.hid q0
  have HQ1 := Lib.hid q1
  have HQ2 := Lib.hid q2
  have HSZ := Lib.hid hsz
  have HBV := Lib.hid hbV
  have HN := Lib.hid hN
  clear q0 q1 q2 hsz hbV hN
  go_wp2_with fail
  refine (sortedFunc_any (N + 1 + 1) ts a cap n V HS.out.len (by omega) (by rw [HSZ.out]; omega) HQ2.out HS2.out).mono ?_
  rintro e w3 ⟨⟨v3, rfl, ss, hp, hso, ho⟩, hb3⟩
  have hsl : ss.length = n := hp.length_eq.trans HS.out.len
  have hsm : SmallT ss := smallT_perm hp (by rw [HS.out.len]; exact HS.out.max) HS.out.small
  have hoT : OwnT V.heap.size w3 v3 ss := by unfold OwnT; rw [hsl]; exact ho
  obtain ⟨a3, cap3, rfl, hI⟩ := hoT.isTerms hsm
  have hlow : ∀ j, (Value.slice a3 ss.length cap3).ownBlock = some j → V.heap.size ≤ j := ownLow hoT
  have hcs : ∀ t ∈ ss, -1000000000000 ≤ t.c ∧ t.c ≤ 1000000000000 := fun t ht => HC.out t (hp.mem_iff.1 ht)
  have hfar : ∀ x, a3 = some x → N + 3 ≤ x.block := by
    intro x ex
    rcases ho.2 with ⟨e0, _⟩ | ⟨g1, cap1, cur1, e0, hg1, _⟩
    · simp only [Value.slice.injEq] at e0
      rw [e0.1] at ex; cases ex
    · simp only [Value.slice.injEq] at e0
      rw [e0.1] at ex
      cases ex
      rw [← HSZ.out]; exact hg1
  rw [hsl]
  have hs3 : N + 3 ≤ w3.heap.size := by rw [← HSZ.out]; exact hb3.size
  have q1 : w3.heap[N + 1]? = some (.cells #[.slice none 0 0, CF] SrT (0, 0)) := (hb3.block (N + 1) (by rw [HSZ.out]; omega)).trans HQ1.out
  have q0 : w3.heap[N]? = some (.cells #[.slice none 0 0, .nilFunc] SrT (0, 0)) := (hb3.block N (by rw [HSZ.out]; omega)).trans HQ0.out
  obtain ⟨base, hbase⟩ : ∃ base, w3.heap.size = base := ⟨_, rfl⟩
  have h0 : HoldS base (N + 1) (mergeT (ss.take 0)) w3 := ⟨_, q1, ⟨rfl, .inl ⟨rfl, rfl⟩⟩⟩
  have HP := Lib.hid hp
  have HSO := Lib.hid hso
  have HSL := Lib.hid hsl
  have HI := Lib.hid hI
  have HCS := Lib.hid hcs
  have HFAR := Lib.hid hfar
  have HB3 := Lib.hid (HBV.out.trans (hb3.mono (by rw [HSZ.out, HN.out]; omega)))
  have HBASE := Lib.hid hbase
  have HQ0' := Lib.hid q0
  clear hp hso ho hsl hsm hoT hI hlow hcs hfar hb3 q1 q0 HQ0 HQ1 HQ2 HBV HS2
  rw [hbase] at hs3
  clear hbase
  go_wp2_with fail
  go_loopw [17] (fun i wr => ∃ k : Nat, k ≤ n ∧ i = .int .i64 k ∧ Hid (HoldS base (N + 1) (mergeT (ss.take k)) wr) ∧ Hid (BelowBut (N + 1) base w3 wr)) (fun i _ => n - (intOf i).toNat)
  case atStart => exact ⟨0, Nat.zero_le _, rfl, Lib.hid h0, Lib.hid (BelowBut.refl _ _ _)⟩
  case round =>
    obtain ⟨k, hk, rfl, HH, HB⟩ := hrel
    by_cases hlt : k < n
    · have hkz : k < ss.length := by rw [HSL.out]; exact hlt
      obtain ⟨x, rfl, hx⟩ := HI.out.at_ (by rw [HSL.out]; omega)
      obtain ⟨t, ht⟩ : ∃ t, ss[k] = t := ⟨_, rfl⟩
      have hxf := HFAR.out x rfl
      have hxb := hx.1
      rw [HBASE.out] at hxb
      have hblk : wr.heap[x.block]? = w3.heap[x.block]? := HB.out.block x.block hxb (by omega)
      have hc := hx.2 k hkz
      rw [ht, addr_next] at hc
      obtain ⟨hc0, hc1⟩ := hc
      have c0 : wr.cell? (x.add (k * 2)) = some (.int .i64 t.c) := (World.cell?_of_block (w := w3) (by rw [addr_add_block]; exact hblk)).trans hc0
      have c1 : wr.cell? ⟨(x.add (k * 2)).block, (x.add (k * 2)).off + 1, none⟩ = some (.string t.s) := (World.cell?_of_block (w := w3) (a := ⟨(x.add (k * 2)).block, (x.add (k * 2)).off + 1, none⟩) (by show wr.heap[(x.add (k * 2)).block]? = _; rw [addr_add_block]; exact hblk)).trans hc1
      have HT := Lib.hid ht
      have hbw : base ≤ wr.heap.size := by rw [← HBASE.out]; exact HB.out.size
      have hsum : ∀ l, (mergeT (ss.take k)).getLast? = some l → -9223372036854775808 ≤ l.c + t.c ∧ l.c + t.c ≤ 9223372036854775807 := by
        intro l hl
        have h1 := merge_bnd (C := 1000000000000) (by omega) HCS.out k l (List.mem_of_getLast? hl)
        have h2 := HCS.out ss[k] (List.getElem_mem hkz)
        rw [ht] at h2
        omega
      have hml := merge_len ss k
      have hmt := merge_take hkz
      rw [ht] at hmt
      have HMT := Lib.hid hmt
      have hpush := push_any base (N + 1) (mergeT (ss.take k)) t (wr.alloc (.cells #[.int .i64 t.c, .string t.s] TI)) (HH.out.alloc (by omega) _) (by omega) (by simp; omega) (by omega) hsum
      have HPU := Lib.hid hpush
      clear ht hx hc0 hc1 hblk h0 hsum hml hmt hpush
      go_wp2_with fail
      refine HPU.out.mono ?_
      rintro e w4 ⟨rfl, hh4, hb4⟩
      have HH4 := Lib.hid hh4
      have HB4 := Lib.hid (HB.out.trans ((BelowBut.of (N + 1) ((Below.refl base wr).alloc hbw _)).trans hb4))
      clear hh4 hb4
      go_wp2
      go_roundw
      case rel => exact ⟨k + 1, by omega, by go_num, Lib.hid (by rw [HMT.out]; exact HH4.out), HB4⟩
      case measure => simp [intOf]; omega
    · obtain rfl : k = n := by omega
      clear h0
      obtain ⟨v, hbx, hrow⟩ := HH.out
      obtain ⟨av, mv, cv, rfl⟩ : ∃ a m c, v = .slice a m c := by
        rcases hrow.2 with ⟨rfl, _⟩ | ⟨g, cap, cur, rfl, _⟩
        · exact ⟨_, _, _, rfl⟩
        · exact ⟨_, _, _, rfl⟩
      have r0 : wr.cell? ⟨N + 1, 0, none⟩ = some (.slice av mv cv) := by simp [World.cell?, hbx]
      have r1 : wr.cell? ⟨N + 1, 1, none⟩ = some CF := by simp [World.cell?, hbx]
      have hq0 := (HB.out.block N (by omega) (by omega)).trans HQ0'.out
      have p0 : wr.cell? ⟨N, 0, none⟩ = some (.slice none 0 0) := by simp [World.cell?, hq0]
      have p1 : wr.cell? ⟨N, 1, none⟩ = some .nilFunc := by simp [World.cell?, hq0]
      have f0 : wr.frozen? ⟨N, 0, none⟩ = false := by simp [World.frozen?, hq0]
      have f1 : wr.frozen? ⟨N, 1, none⟩ = false := by simp [World.frozen?, hq0]
      have HROW := Lib.hid hrow
      clear hbx hrow hq0
      have hqN := (HB.out.block N (by omega) (by omega)).trans HQ0'.out
      have hqr : ((wr.setCell ⟨N, 0, none⟩ (.slice av mv cv)).setCell ⟨N, 1, none⟩ CF).heap[N]? = some (.cells #[.slice av mv cv, CF] SrT (0, 0)) := by
        simp [World.setCell, Array.getElem?_modify, hqN]
      have HQR := Lib.hid hqr
      clear hqN hqr
      go_wp2
      refine bodyPost_ret (results_cell_row rfl _ _ N SrT #[.slice av mv cv, CF] (0, 0) _ rfl HQR.out Try.underlying101 rfl (by kernel_rfl)) rfl ?_
      have hk : ss.take k = ss := List.take_of_length_le (by rw [HSL.out]; exact Nat.le_refl _)
      have hr := HROW.out
      rw [hk] at hr
      have hbb : Below w.heap.size w wr := HB3.out.trans ⟨HB.out.os, HB.out.tape, HB.out.output, HB.out.size, fun j hj => HB.out.block j (by rw [HN.out] at hj; omega) (by rw [HN.out] at hj; omega)⟩
      refine ⟨⟨_, rfl, ss, HP.out, HSO.out, ?_⟩, (hbb.setCell (p := ⟨N, 0, none⟩) (by show w.heap.size ≤ N; rw [HN.out]; exact Nat.le_refl _) _).setCell (p := ⟨N, 1, none⟩) (by show w.heap.size ≤ N; rw [HN.out]; exact Nat.le_refl _) _⟩
      exact ownsRow_base (ownsRow_setCell_below (ownsRow_setCell_below hr (by show N < base; omega) _) (by show N < base; omega) _) (by rw [HN.out]; omega)

end Go.Proofs.Ytebgcebjlbhjjab

/- The contracts of the laws' own helpers that mark memory and look the marks up. -/

namespace Go.Proofs.Ytebgcebjlbhjjab
open Go.RowKit Go.Shelf

/-- A term is stored: its two cells. -/
theorem set_terms (us : List Tm) (i : Nat) (t : Tm) (hi : i < us.length) : ((termsV us).set (i * 2) (.int .i64 t.c)).set (i * 2 + 1) (.string t.s) = termsV (us.set i t) := by
  have e : us = us.take i ++ us[i] :: us.drop (i + 1) := by rw [List.getElem_cons_drop]; exact (List.take_append_drop i us).symm
  have hl : (termsV (us.take i)).length = i * 2 := by rw [termsV_len, List.length_take, Nat.min_eq_left (by omega)]
  have hset : us.set i t = us.take i ++ t :: us.drop (i + 1) := by rw [List.set_eq_take_append_cons_drop, if_pos hi]
  rw [hset]
  have e2 : termsV us = termsV (us.take i) ++ .int .i64 us[i].c :: .string us[i].s :: termsV (us.drop (i + 1)) := by
    rw [← termsV_cons, ← termsV_append, ← e]
  rw [e2, termsV_append, termsV_cons, List.set_append_right _ _ (by omega), List.set_append_right _ _ (by omega), hl, Nat.sub_self, show i * 2 + 1 - i * 2 = 1 by omega]
  rfl

/-- The text of a mark. -/
def mkB (m : Nat) (t : ByteArray) : ByteArray :=
  if _h : m = 0 then t else mkB (m / 10) (⟨#[UInt8.ofNat (48 + m % 10)]⟩ ++ t)
termination_by m
decreasing_by omega
theorem mkB_zero (t : ByteArray) : mkB 0 t = t := by rw [mkB]; simp
theorem mkB_step {m : Nat} (h : m ≠ 0) (t : ByteArray) : mkB (m / 10) (⟨#[UInt8.ofNat (48 + m % 10)]⟩ ++ t) = mkB m t := by conv => rhs; rw [mkB, dif_neg h]
def mkS (k : Nat) : ByteArray := ⟨#[109]⟩ ++ mkB k ⟨#[]⟩

end Go.Proofs.Ytebgcebjlbhjjab

/- The contract of slices.DeleteFunc at 'isZero'. -/

namespace Go.Proofs.Ytebgcebjlbhjjab
open Go.RowKit Go.Shelf

/-- A shorter slice of the same row. -/
theorem ownsRow_shorter {w : World} {base : Nat} {e : TypeId} {size g n k cap : Nat} {xs : List Value} (h : w.ownsRow base e size (.slice (some ⟨g, 0, none⟩) n cap) n xs) (hk : k ≤ n) :
    w.ownsRow base e size (.slice (some ⟨g, 0, none⟩) k cap) k (xs.take (k * size)) := by
  have hks : k * size ≤ n * size := Nat.mul_le_mul_right _ hk
  rcases h.2 with ⟨h', _⟩ | ⟨g', cap', cur, h', hb, hg, hnc, hcm, hcs, htake⟩
  · simp at h'
  · simp only [Value.slice.injEq, Option.some.injEq, Addr.mk.injEq, and_true, true_and] at h'
    obtain ⟨rfl, rfl⟩ := h'
    refine ⟨by rw [List.length_take, h.1]; omega, .inr ⟨g, cap, cur, rfl, hb, hg, by omega, hcm, hcs, ?_⟩⟩
    rw [← htake, List.take_take, Nat.min_eq_left hks]
/-- Stores behind the first m cells. -/
theorem ownsRow_behind {base : Nat} {e : TypeId} {size g n cap m : Nat} : ∀ (vs : List Value) (o : Nat) {w : World} {xs : List Value}, w.ownsRow base e size (.slice (some ⟨g, 0, none⟩) n cap) n xs → m ≤ o →
    ∃ ys, (w.setCells g o vs).ownsRow base e size (.slice (some ⟨g, 0, none⟩) n cap) n ys ∧ ys.take m = xs.take m
  | [], _, _, xs, h, _ => ⟨xs, h, rfl⟩
  | v :: r, o, w, xs, h, hm => by
    obtain ⟨ys, h1, h2⟩ := ownsRow_behind (m := m) r (o + 1) (h.stored o v).1 (by omega)
    refine ⟨ys, h1, h2.trans ?_⟩
    rw [List.take_set, List.set_eq_of_length_le (by rw [List.length_take]; omega)]
theorem below_cells {B g : Nat} (hg : B ≤ g) : ∀ (vs : List Value) (o : Nat) {w0 w : World}, Below B w0 w → Below B w0 (w.setCells g o vs)
  | [], _, _, _, h => h
  | v :: r, o, _, _, h => below_cells hg r (o + 1) (h.setCell (p := ⟨g, o, none⟩) hg v)

/-- 'clear' at a slice of terms. -/
theorem clear_terms {P : Program} (w : World) (t : TypeId) (ht : P.underlying t = some (.slice TI)) (hv : ∀ w, (zeroValue TI).run P w = .ok (.agg #[.int .i64 0, .string ByteArray.empty]) w) (b o n c : Nat) (hn : 0 < n)
    (hc : ∀ j, j < n * 2 → (w.cell? ⟨b, o + j, none⟩).isSome = true) (hf : ∀ j, w.frozen? ⟨b, j, none⟩ = false) :
    ∃ vs, ∀ ty, (Builtin.clear_ #[t] ty #[.slice (some ⟨b, o, none⟩) n c]).run P w = .ok (.tuple #[]) (w.setCells b o vs) := by
  refine ⟨(Builtin.zeroCells #[.int .i64 0, .string ByteArray.empty] n).toList, fun ty => ?_⟩
  have hlen : (Builtin.zeroCells #[.int .i64 0, .string ByteArray.empty] n).toList.length = n * 2 := by simp [Builtin.zeroCells]
  have hst := run_storeCells_cells (P := P) b o (Builtin.zeroCells #[.int .i64 0, .string ByteArray.empty] n).toList 0 w (by rw [hlen]; simpa using hc) (fun j _ => hf _) (by
    intro u hu
    simp only [Builtin.zeroCells, Array.toList_map, List.mem_map] at hu
    obtain ⟨i, _, rfl⟩ := hu
    have h2 : i % 2 < 2 := Nat.mod_lt _ (by omega)
    rcases (by omega : i % 2 = 0 ∨ i % 2 = 1) with h | h
    · simp [h, Value.oneCell']
    · simp [h, Value.oneCell'])
  simp only [Nat.add_zero] at hst
  obtain ⟨m, rfl⟩ : ∃ m, n = m + 1 := ⟨n - 1, by omega⟩
  simp [Builtin.clear_, run_underlying ht, hv, Value.cells, hst]

abbrev nzT (ts : List Tm) : List Tm := ts.filter fun t => !(t.c == 0)
theorem nzT_all {ts : List Tm} (h : ∀ j (h : j < ts.length), ts[j].c ≠ 0) : nzT ts = ts := by
  refine List.filter_eq_self.2 fun t ht => ?_
  obtain ⟨j, hj, rfl⟩ := List.getElem_of_mem ht
  simpa using h j hj
theorem nzT_first {ts : List Tm} {i : Nat} (hi : i < ts.length) (h0 : ts[i].c = 0) (h : ∀ j (h : j < i), ts[j].c ≠ 0) : nzT (ts.take (i + 1)) = ts.take i := by
  rw [List.take_add_one, List.getElem?_eq_getElem hi]
  unfold nzT
  rw [List.filter_append]
  have h1 : (ts.take i).filter (fun t => !(t.c == 0)) = ts.take i := nzT_all fun j hj => by
    rw [List.length_take] at hj
    rw [List.getElem_take]
    exact h j (by omega)
  rw [h1]
  simp [h0]
theorem nzT_step {ts : List Tm} {j : Nat} {t : Tm} (hj : j < ts.length) (ht : ts[j] = t) : nzT (ts.take (j + 1)) = nzT (ts.take j) ++ (if t.c = 0 then [] else [t]) := by
  rw [List.take_add_one, List.getElem?_eq_getElem hj]
  unfold nzT
  rw [List.filter_append, ht]
  by_cases h : t.c = 0 <;> simp [h]
theorem nzT_len (ts : List Tm) (j : Nat) : (nzT (ts.take j)).length ≤ j := Nat.le_trans (List.length_filter_le _ _) (by rw [List.length_take]; omega)

/-- The terms kept so far, and the rest as it was. -/
structure Kept (base : Nat) (w : World) (g cap n i j : Nat) (ts us : List Tm) : Prop where
  own : w.ownsRow base TI 2 (.slice (some ⟨g, 0, none⟩) n cap) n (termsV us)
  len : us.length = n
  head : us.take i = nzT (ts.take j)
  tail : us.drop j = ts.drop j
  hi : i < j
  hj : j ≤ n
theorem Kept.below {base : Nat} {w w' : World} {g cap n i j : Nat} {ts us : List Tm} (h : Kept base w g cap n i j ts us) (hb : Below w.heap.size w w') : Kept base w' g cap n i j ts us :=
  ⟨by have := h.own; rw [← h.len] at this ⊢; exact OwnT.below this hb, h.len, h.head, h.tail, h.hi, h.hj⟩
theorem Kept.at_ {base : Nat} {w : World} {g cap n i j : Nat} {ts us : List Tm} (h : Kept base w g cap n i j ts us) (hjn : j < n) (hz : j < ts.length) :
    w.cell? ⟨g, j * 2, none⟩ = some (.int .i64 ts[j].c) ∧ w.cell? ⟨g, j * 2 + 1, none⟩ = some (.string ts[j].s) := by
  have hta := termsAt_of_owns (ts := us) (g := g) (cap := cap) rfl (by rw [h.len]; exact h.own)
  have hju : j < us.length := by rw [h.len]; exact hjn
  obtain ⟨h1, h2⟩ := hta.2 j hju
  have e : us[j] = ts[j] := by
    have := congrArg (·[0]?) h.tail
    simp only [List.getElem?_drop, Nat.add_zero, List.getElem?_eq_getElem hju, List.getElem?_eq_getElem hz] at this
    exact Option.some.inj this
  rw [e] at h1 h2
  rw [add_off] at h1 h2
  exact ⟨h1, h2⟩
theorem Kept.keep {base : Nat} {w : World} {g cap n i j : Nat} {ts us : List Tm} {t : Tm} (h : Kept base w g cap n i j ts us) (hz : j < ts.length) (hjn : j < n) (ht : ts[j] = t) (hc : t.c ≠ 0) :
    Kept base ((w.setCell ⟨g, i * 2, none⟩ (.int .i64 t.c)).setCell ⟨g, i * 2 + 1, none⟩ (.string t.s)) g cap n (i + 1) (j + 1) ts (us.set i t) := by
  have hiu : i < us.length := by rw [h.len]; have := h.hi; omega
  refine ⟨?_, by rw [List.length_set]; exact h.len, ?_, ?_, by have := h.hi; omega, by omega⟩
  · rw [← set_terms us i t hiu]
    exact ((h.own.stored (i * 2) (.int .i64 t.c)).1.stored (i * 2 + 1) (.string t.s)).1
  · rw [nzT_step hz ht, if_neg hc, ← h.head, List.take_add_one, List.getElem?_set_self hiu, List.take_set, List.set_eq_of_length_le (by rw [List.length_take]; omega)]
    rfl
  · have := congrArg (List.drop 1) h.tail
    rw [List.drop_drop, List.drop_drop] at this
    rw [List.drop_set, if_pos (by have := h.hi; omega)]
    exact this
theorem Kept.skip {base : Nat} {w : World} {g cap n i j : Nat} {ts us : List Tm} {t : Tm} (h : Kept base w g cap n i j ts us) (hz : j < ts.length) (hjn : j < n) (ht : ts[j] = t) (hc : t.c = 0) : Kept base w g cap n i (j + 1) ts us := by
  refine ⟨h.own, h.len, ?_, ?_, by have := h.hi; omega, by omega⟩
  · rw [nzT_step hz ht, if_pos hc, List.append_nil]; exact h.head
  · have := congrArg (List.drop 1) h.tail
    rw [List.drop_drop, List.drop_drop] at this
    exact this

set_option maxRecDepth 100000 in
set_option maxHeartbeats 2000000 in
theorem deleteZero_any (base : Nat) (v : Value) (ts : List Tm) (w : World) (h : OwnT base w v ts) (hsm : SmallT ts) (hbase : base ≤ w.heap.size) :
    Calls Try.prog 112 #[v, ZF] w fun e w' =>
      (∃ r, e = .returned r ∧ OwnT base w' r (nzT ts)) ∧ Below base w w' := by
  obtain ⟨a, cap, rfl, hI⟩ := h.isTerms hsm
  have hmax : ts.length ≤ maxLen := hsm.1
  unfold maxLen at hmax
  have HI := Lib.hid hI
  have HO := Lib.hid h
  obtain ⟨n, hn⟩ : ∃ n, ts.length = n := ⟨_, rfl⟩
  rw [hn] at hmax HI HO ⊢
  have HN := Lib.hid hn
  clear hI h hsm hn
  go_enter Try.func112, Try.ntmps112
  go_wp2_with fail
  refine (indexZero_any a cap n ts _ HI.out).mono ?_
  rintro e w2 ⟨⟨r, rfl, hr⟩, hb2⟩
  have HB2 := Lib.hid hb2
  rcases hr with ⟨rfl, hall⟩ | ⟨i, hi, rfl, hz, hbef⟩
  · have HA := Lib.hid hall
    clear hall hb2
    go_wp2
    go_ret
    refine ⟨⟨_, rfl, ?_⟩, HB2.out.mono hbase⟩
    rw [nzT_all HA.out]
    have := HO.out.below HB2.out
    exact this
  · have hin : i < n := by rw [← HN.out]; exact hi
    have hd : decide ((i : Int) = -1) = false := by simp
    obtain ⟨g, rfl, hg⟩ : ∃ g, a = some ⟨g, 0, none⟩ ∧ base ≤ g := by
      rcases HO.out.2 with ⟨_, e1⟩ | ⟨g, cap1, cur, e0, hg, _⟩
      · rw [HN.out] at e1; omega
      · simp only [Value.slice.injEq] at e0; exact ⟨g, e0.1, hg⟩
    have hok : (w2.ownsRow base TI 2 (.slice (some ⟨g, 0, none⟩) n cap) n (termsV ts)) := by
      have := HO.out.below HB2.out
      unfold OwnT at this
      rw [HN.out] at this
      exact this
    have hcap : n ≤ cap := (ownsRow_cap hok).1
    have hcm : cap ≤ 2 ^ 63 - 1 := (ownsRow_cap hok).2.1
    have hk0 : Kept base w2 g cap n i (i + 1) ts ts := ⟨hok, HN.out, (nzT_first hi hz hbef).symm, rfl, by omega, by omega⟩
    have HK0 := Lib.hid hk0
    have HBB := Lib.hid (HB2.out.mono hbase)
    clear hz hbef hb2 hok hk0 hi
    go_wp2_with fail
    go_loopw [5, 6] (fun p q wr => ∃ (i j : Nat) (us : List Tm), p = .int .i64 i ∧ q = .int .i64 j ∧ Hid (Kept base wr g cap n i j ts us) ∧ i < j ∧ j ≤ n ∧ Hid (Below base w wr)) (fun _ q _ => n - (intOf q).toNat)
    case atStart => exact ⟨i, i + 1, ts, rfl, by go_num, HK0, by omega, by omega, HBB⟩
    case round =>
      obtain ⟨i, j, us, rfl, rfl, HK, hij, hjn, HB⟩ := hrel
      by_cases hlt : j < n
      · have hjz : j < ts.length := by rw [HN.out]; exact hlt
        obtain ⟨t, ht⟩ : ∃ t, ts[j] = t := ⟨_, rfl⟩
        obtain ⟨c0, c1⟩ := HK.out.at_ hlt hjz
        rw [ht] at c0 c1
        have HT := Lib.hid ht
        have hgw : g < wr.heap.size := (ownsRow_cap HK.out.own).2.2.2
        have hbw : base ≤ wr.heap.size := by omega
        clear ht
        go_wp2_with fail
        refine (isZero_any t _).mono ?_
        rintro e w4 ⟨rfl, hg4⟩
        have hb4 := hg4.below
        have hbw4 : Below wr.heap.size wr w4 := ((Below.refl _ wr).alloc (Nat.le_refl _) _).trans (hb4.mono (by simp))
        have hK4 := HK.out.below hbw4
        have HB4 := Lib.hid (HB.out.trans (hbw4.mono hbw))
        have hxb : (wr.alloc (.cells #[.int .i64 t.c, .string t.s] TI)).heap[wr.heap.size]? = some (.cells #[.int .i64 t.c, .string t.s] TI (0, 0)) := World.alloc_heap_new _ _
        have hxb4 := (hb4.block wr.heap.size (by simp)).trans hxb
        have d0 : w4.cell? ⟨wr.heap.size, 0, none⟩ = some (.int .i64 t.c) := by unfold World.cell?; rw [hxb4]; rfl
        have d1 : w4.cell? ⟨wr.heap.size, 1, none⟩ = some (.string t.s) := by unfold World.cell?; rw [hxb4]; rfl
        have hlu : (termsV us).length = n * 2 := by rw [termsV_len, hK4.len]
        have hd0 : ∃ u, w4.cell? ⟨g, i * 2, none⟩ = some u := by rw [hK4.own.cellAt _ (by omega)]; exact ⟨_, List.getElem?_eq_getElem (by omega)⟩
        have hd1 : ∃ u, w4.cell? ⟨g, i * 2 + 1, none⟩ = some u := by rw [hK4.own.cellAt _ (by omega)]; exact ⟨_, List.getElem?_eq_getElem (by omega)⟩
        obtain ⟨u0, hu0⟩ := hd0
        obtain ⟨u1, hu1⟩ := hd1
        have hf0 := hK4.own.frozenAt (i * 2)
        have hf1 := hK4.own.frozenAt (i * 2 + 1)
        have hin2 : i < n := by omega
        have HK4 := Lib.hid hK4
        clear hg4 hb4 hbw4 hK4 hxb hxb4 hlu c0 c1
        by_cases hz : t.c = 0
        · have hzb : (t.c == 0) = true := by simpa using hz
          have HZ := Lib.hid hz
          clear hz
          go_wp2
          go_roundw
          case rel =>
            refine ⟨_, _, _, _, _, _, _, _, _, _, _, _, _, _, _, _, _, _, _, _, _, _, _, ?_, rfl⟩
            exact ⟨i, j + 1, us, rfl, by go_num, Lib.hid (HK4.out.skip hjz hlt HT.out HZ.out), by omega, by omega, HB4⟩
          case measure => simp [intOf]; omega
        · have hzb : (t.c == 0) = false := by simpa using hz
          have HZ := Lib.hid hz
          clear hz
          go_wp2
          go_roundw
          case rel =>
            refine ⟨_, _, _, _, _, _, _, _, _, _, _, _, _, _, _, _, _, _, _, _, _, _, _, ?_, rfl⟩
            exact ⟨i + 1, j + 1, us.set i t, by go_num, by go_num, Lib.hid (HK4.out.keep hjz hlt HT.out HZ.out), by omega, by omega, Lib.hid ((HB4.out.setCell (p := ⟨g, i * 2, none⟩) hg _).setCell (p := ⟨g, i * 2 + 1, none⟩) hg _)⟩
          case measure => simp [intOf]; omega
      · obtain rfl : j = n := by omega
        obtain ⟨i0, hi, hz0, hz1, hz2⟩ := info_parts infoTerm
        have hzv : ∀ w, (zeroValue TI).run Try.prog w = .ok (.agg #[.int .i64 0, .string ByteArray.empty]) w := fun w => by simp [zeroValue, typeInfo, hi, hz0]
        have hlu : (termsV us).length = j * 2 := by rw [termsV_len, HK.out.len]
        obtain ⟨vs, hcl⟩ := clear_terms (P := Try.prog) wr 25 Try.underlying25 hzv g (i * 2) (j - i) (cap - i) (by omega)
          (fun m hm => by rw [HK.out.own.cellAt _ (by omega), List.getElem?_eq_getElem (by omega)]; rfl) (fun m => HK.out.own.frozenAt m)
        clear hi hz0 hz1 hz2 hzv hlu
        go_wp2
        go_ret
        obtain ⟨ys, h1, h2⟩ := ownsRow_behind (m := i * 2) vs (i * 2) HK.out.own (Nat.le_refl _)
        have h3 := ownsRow_shorter (k := i) h1 (by omega)
        refine ⟨⟨_, rfl, ?_⟩, below_cells hg vs _ HB.out⟩
        have hnz : nzT ts = us.take i := by rw [HK.out.head, List.take_of_length_le (by rw [HN.out]; exact Nat.le_refl _)]
        have hl : (us.take i).length = i := by rw [List.length_take, HK.out.len]; omega
        have ht : (termsV us).take (i * 2) = termsV (us.take i) := by
          have e : us = us.take i ++ us.drop i := (List.take_append_drop i us).symm
          conv => lhs; rw [e]
          rw [termsV_append, List.take_append_of_le_length (by rw [termsV_len, hl]; exact Nat.le_refl _), List.take_of_length_le (by rw [termsV_len, hl]; exact Nat.le_refl _)]
        rw [h2, ht] at h3
        unfold OwnT
        rw [hnz, hl]
        exact h3

end Go.Proofs.Ytebgcebjlbhjjab

/- The contracts of the program's 'toldSum' and 'SumOf'. -/

namespace Go.Proofs.Ytebgcebjlbhjjab
open Go.RowKit Go.Shelf

/-- What a call of the program answers that tells a sum. -/
def ITold (w : World) (b : Bool) (us : List Tm) (e : Ending) (w' : World) : Prop := (∃ v', e = .returned (.tuple #[v', .bool b]) ∧ OwnT w.heap.size w' v' (cond b us [])) ∧ Below w.heap.size w w'
theorem ownNil (base : Nat) (w : World) : OwnT base w (.slice none 0 0) [] := ⟨rfl, .inl ⟨rfl, rfl⟩⟩
/-- Terms that may be gathered: not too many, not too great, their words of whatever length. -/
theorem filter_small {ts : List Tm} {p : Tm → Bool} (h : SmallT ts) : SmallT (ts.filter p) :=
  ⟨Nat.le_trans (List.length_filter_le _ _) h.1, fun t ht => h.2 t (List.mem_filter.1 ht).1⟩
theorem push_words {acc : List Tm} {t : Tm} {M : Nat} (h : ∀ u ∈ acc, u.s.size ≤ M) (ht : t.s.size ≤ M) : ∀ u ∈ pushT acc t, u.s.size ≤ M := by
  intro u hu
  rcases List.eq_nil_or_concat acc with rfl | ⟨b, l, rfl⟩
  · rw [push_nil] at hu; rw [List.mem_singleton.1 hu]; exact ht
  · rw [List.concat_eq_append] at *
    rw [push_last] at hu
    have hl := h l (by simp)
    split at hu
    · rcases List.mem_append.1 hu with hu | hu
      · exact h u (by simp [hu])
      · rw [List.mem_singleton.1 hu]; exact hl
    · rcases List.mem_append.1 hu with hu | hu
      · exact h u hu
      · rw [List.mem_singleton.1 hu]; exact ht
theorem merge_words {M : Nat} : ∀ (ts acc : List Tm), (∀ u ∈ acc, u.s.size ≤ M) → (∀ u ∈ ts, u.s.size ≤ M) → ∀ u ∈ ts.foldl pushT acc, u.s.size ≤ M
  | [], _, h, _ => h
  | t :: r, acc, h, ht => merge_words r (pushT acc t) (push_words h (ht t (by simp))) (fun u hu => ht u (by simp [hu]))
theorem merge_small {ts : List Tm} (hn : ts.length ≤ 100000) (hc : ∀ t ∈ ts, -1000000000000 ≤ t.c ∧ t.c ≤ 1000000000000) (hs : ∀ t ∈ ts, t.s.size ≤ maxLen) : SmallT (mergeT ts) := by
  have h1 := merge_len ts ts.length
  have h2 := merge_bnd (C := 1000000000000) (by omega) hc ts.length
  rw [merge_all] at h1 h2
  refine ⟨by unfold maxLen; omega, fun t ht => ⟨merge_words ts [] (fun u h => by cases h) hs t ht, ?_⟩⟩
  have := h2 t ht
  omega

set_option maxRecDepth 100000 in
set_option maxHeartbeats 1000000 in
theorem toldSum_any (a : Option Addr) (cap n : Nat) (ts : List Tm) (b : Bool) (w : World) (hs : IsTerms w a n ts) (hn : n ≤ 100000) (hc : ∀ t ∈ ts, -1000000000000 ≤ t.c ∧ t.c ≤ 1000000000000) (hb : twB (canonT ts) = b) :
    Calls Try.prog 60 #[.slice a n cap] w (ITold w b (canonT ts)) := by
  have HS := Lib.hid hs
  have HC := Lib.hid hc
  have HBB := Lib.hid hb
  clear hs hc hb
  go_enter Try.func60, Try.ntmps60
  go_wp2_with fail
  refine (gathered_any a cap n ts _ HS.out hn HC.out).mono ?_
  rintro e w1 ⟨⟨v, rfl, ss, hp, hso, ho⟩, hb1⟩
  obtain ⟨av, mv, cv, rfl⟩ : ∃ a m c, v = .slice a m c := by
    rcases ho.2 with ⟨rfl, _⟩ | ⟨g, cap, cur, rfl, _⟩
    · exact ⟨_, _, _, rfl⟩
    · exact ⟨_, _, _, rfl⟩
  have hss : SmallT (mergeT ss) := merge_small (by rw [hp.length_eq, HS.out.len]; exact hn) (fun t ht => HC.out t (hp.mem_iff.1 ht)) (fun t ht => (HS.out.small t (hp.mem_iff.1 ht)).1)
  have heq : nzT (mergeT ss) = canonT ts := gathered_eq hp hso
  have hsc : SmallT (canonT ts) := by rw [← heq]; exact filter_small hss
  have hdel := deleteZero_any w.heap.size (.slice av mv cv) (mergeT ss) w1 ho hss hb1.size
  rw [heq] at hdel
  have HD := Lib.hid hdel
  have hfield : (Instr.field SrT (.agg #[.slice av mv cv, CF]) 0).run Try.prog w1 = .ok (.slice av mv cv) w1 := by
    simp [Instr.field, run_underlying Try.underlying101, part, run_isAgg_plain Try.underlying25 rfl, asAgg, Result.andThen]
  have HSC := Lib.hid hsc
  have HB1 := Lib.hid hb1
  clear hp hso ho hss heq hsc hdel hb1
  go_wp2_with fail
  refine HD.out.mono ?_
  rintro e w2 ⟨⟨r, rfl, ho⟩, hb2⟩
  obtain ⟨ar, cr, rfl, hI⟩ := ho.isTerms HSC.out
  have HO := Lib.hid ho
  have HI := Lib.hid hI
  have HB2 := Lib.hid (HB1.out.trans hb2)
  clear ho hI hb2
  go_wp2_with fail
  refine (termWords_any ar cr _ (canonT ts) _ HI.out).mono ?_
  rintro e w3 ⟨⟨rfl, hf⟩ | ⟨g, vals, rfl, hf, _, _⟩, hb3⟩
  · obtain rfl : b = false := by rw [← HBB.out, hf]
    have HB3 := Lib.hid hb3
    clear hb3 hf
    go_wp2
    go_ret2
    exact ⟨⟨_, rfl, ownNil _ _⟩, HB2.out.trans (HB3.out.mono HB2.out.size)⟩
  · obtain rfl : b = true := by rw [← HBB.out, hf]
    have HB3 := Lib.hid hb3
    clear hb3 hf
    go_wp2
    go_ret2
    exact ⟨⟨_, rfl, HO.out.below HB3.out⟩, HB2.out.trans (HB3.out.mono HB2.out.size)⟩

end Go.Proofs.Ytebgcebjlbhjjab

/- What the laws' proofs stand on, part 3 of 3. -/
import Derived.Test.YtfhlceggihodeaaBa
import Derived.Test.YtfhlceggihodeaaBb

/- The contracts of the program's 'series' of a word and of 'SeriesOf'. -/

namespace Go.Proofs.Ytfhlceggihodeaa
open Go.RowKit Go.Shelf

attribute [local go_sem] Oper.semAt_some

theorem serW_bnd {us : List Tm} {l : List UInt8} (ha : Apart us) (hl : letL l = true) (h60 : l.length ≤ 60) (hq : ∀ q, coefAt q us = coefAt q (serW l)) : BndT 1000000 us := by
  have hok := serW_ok l hl
  refine apart_bnd ha (fun t ht => ?_) (by omega)
  rw [canon_same hq, canon_id hok.canon] at ht
  exact ((hok.ser h60).2 t ht).2
theorem letS_bnd {c : UInt8} (hc : letB c = true) : BndT 1000000 (letS c) := fun t ht => by have := (letS_ok hc).1 t ht; omega
theorem letS_mono {c : UInt8} (hc : letB c = true) : MonoT (letS c) := fun t ht => ((letS_ok hc).1 t ht).1

set_option maxRecDepth 100000 in
set_option maxHeartbeats 4000000 in
theorem wordSeries_in (n : Nat) (hn : 60 ≤ n) (g k cap : Nat) (L : List UInt8) (w : World) (hk : L.length = k) (hk60 : k ≤ 60) (hL : letL L = true) (hw : IsWord w.heap.size w (.slice (some ⟨g, 0, none⟩) k cap) L) :
    CallsIn Fence.wide n Try.prog 30 #[.slice (some ⟨g, 0, none⟩) k cap] w fun e w' =>
      ∃ b us, e = .returned (.map (some b)) ∧ w.heap.size ≤ b ∧ MapT w' b us ∧ MonoT us ∧ (∀ q, coefAt q us = coefAt q (serW L)) ∧ Below w.heap.size w w' := by
  have H2 := Lib.hid hL
  have HKL := Lib.hid hk
  have HW := Lib.hid hw
  clear hL hk hw
  refine callsIn_of_wp_marks Try.func30 rfl trivial ?_ rfl
  simp only [Try.ntmps30, List.size_toArray, List.length_cons, List.length_nil, Nat.reduceAdd, Nat.reduceSub, Array.replicate_succ, Array.replicate_zero, List.push_toArray, List.append_toArray, List.nil_append, List.cons_append]
  gi_wp2_with fail
  refine ⟨trivial, fun _ => by omega, ?_⟩
  refine (callsIn_wide.2 (oneSeries_any _)).mono ?_
  rintro e w1 ⟨⟨mb, rfl, hlo, hM⟩, hb1⟩
  have hmlt := hM.lt
  have HM := Lib.hid hM
  have HB1 := Lib.hid hb1
  have hs1 := hb1.size
  clear hM hb1
  gi_wp2_with fail
  refine ⟨trivial, fun _ => by omega, ?_⟩
  refine (callsIn_wide.2 (letters_fwd _ _ _ 1 _ (by decide))).mono ?_
  rintro e w3 ⟨rfl, rfl⟩
  have hbx := (Boxed.new w1 SerT (.map (some mb))).alloc (.cells #[.slice (some ⟨g, 0, none⟩) k cap] WT)
  have hbi := Boxed.new (w1.alloc (.cells #[.map (some mb)] SerT)) WT (.slice (some ⟨g, 0, none⟩) k cap)
  have hBv : Below w1.heap.size w1 ((w1.alloc (.cells #[.map (some mb)] SerT)).alloc (.cells #[.slice (some ⟨g, 0, none⟩) k cap] WT)) := ((Below.refl _ w1).alloc (Nat.le_refl _) _).alloc (by simp) _
  have hsz : ((w1.alloc (.cells #[.map (some mb)] SerT)).alloc (.cells #[.slice (some ⟨g, 0, none⟩) k cap] WT)).heap.size = w1.heap.size + 2 := by simp
  simp only [World.size_alloc] at hbx hbi ⊢
  generalize ((w1.alloc (.cells #[.map (some mb)] SerT)).alloc (.cells #[.slice (some ⟨g, 0, none⟩) k cap] WT)) = V at hbx hbi hBv hsz ⊢
  have hBV : Below w.heap.size w V := HB1.out.trans (hBv.mono hs1)
  have HWV := Lib.hid (HW.out.below hBV)
  have HMV := Lib.hid (HM.out.below hBv)
  have HBX := Lib.hid hbx
  have HBI := Lib.hid hbi
  have HBV := Lib.hid hBV
  clear hbx hbi hBV hBv
  gi_wp2_with fail
  refine range_values (by omega) (Bs := w1.heap.size + 1) rfl (n₀ := w.heap.size) (L := L) (by omega) HBI.out.cell HWV.out (by omega)
    (fun pre X => (Boxed X w1.heap.size SerT (.map (some mb)) ∧ ∃ us, MapT X mb us ∧ MonoT us ∧ ∀ q, coefAt q us = coefAt q (serW pre)) ∧ Below w.heap.size w X)
    (OwnFrom.and (OwnFrom.and (Own.from (fun s A B row hs hg hr => boxed_own w1.heap.size _ (fun _ : Unit => .map (some mb)) () A B row hs hg hr) _)
      (fun s A B row ⟨us, h1, h2⟩ hg hr => ⟨us, h1.kept hg (fun e => by have := (hr mb e.symm).1; omega), h2⟩)) (ownFrom_below (by omega) (by omega)))
    ⟨⟨HBX.out, _, HMV.out, fun t ht => by rw [List.mem_singleton.1 ht]; decide, fun _ => rfl⟩, HBV.out⟩
    (fun x => { tmps := #[.slice (some ⟨g, 0, none⟩) k cap, undef, .map none, .pointer (some ⟨w1.heap.size, 0, none⟩), .int .u8 (x.toNat : Int), .map (some mb), .slice (some ⟨g, 0, none⟩) k cap, .func (.func FV) #[] #[.pointer (some ⟨w1.heap.size + 1, 0, none⟩)], .int .u8 (x.toNat : Int), undef, undef, undef, undef, undef], defers := [] }) ?assign ?body ?done
  case assign =>
    intro l x W K hK
    gi_wp2
    exact hK
  case body =>
    rintro l pre x W ⟨⟨hbx, us, hT, mU, hq⟩, hB⟩ hpre
    have hlet : letB x = true := List.all_eq_true.1 H2.out x (prefix_mem hpre)
    have hlp : letL pre = true := letL_of_mem _ _ H2.out (fun c hc => hpre.subset (by simp [hc]))
    have hplen := prefix_len hpre
    rw [HKL.out] at hplen
    have hbd := serW_bnd hT.apart hlp (by omega) hq
    have hstep : ∀ q, coefAt q (pairsS us (letS x)) = coefAt q (serW (pre ++ [x])) := fun q => by rw [serW_snoc, (canonT_spec _).2, pairs_same1 hq]
    have HLS : Hid (∀ X, Calls Try.prog 39 #[.int .u8 (x.toNat : Int)] X fun e w' => ∃ b, e = .returned (.map (some b)) ∧ X.heap.size ≤ b ∧ MapT w' b (letS x) ∧ Below X.heap.size X w') := Lib.hid fun X => letterSeries_any x X hlet
    have HTM : Hid (∀ (b2 : Nat) (X : World), mb ≠ b2 → MapT X mb us → MapT X b2 (letS x) → Calls Try.prog 38 #[.map (some mb), .map (some b2)] X fun e w' => e = .returned (.tuple #[]) ∧ (∃ ts, MapT w' mb ts ∧ MonoT ts ∧ ∀ q, coefAt q ts = coefAt q (serW (pre ++ [x]))) ∧ X.grownBy w' (some mb)) :=
      Lib.hid fun b2 X hne h1 h2 => (times_any mb b2 us (letS x) X hne h1 h2 mU (letS_mono hlet) hbd (letS_bnd hlet)).mono fun e w' ⟨e1, ⟨ts, h1, h2, h3⟩, h4⟩ => ⟨e1, ⟨ts, h1, h2, fun q => by rw [h3, hstep]⟩, h4⟩
    have hmW := hT.lt
    have HT := Lib.hid hT
    have HBX2 := Lib.hid hbx
    have HB := Lib.hid hB
    have hws := hB.size
    have hc3 := hbx.cell
    have hbl := hbx.lt
    clear hT mU hq hbd hstep hlet hlp hbx hB hpre
    gi_wp2
    refine wpIn_region_any (by kernel_rfl) ?_
    change wpAnyIn _ _ _ _ _ _ _ _ _ (World.drew _)
    obtain ⟨S2, hS2⟩ : ∃ S2 : Value → World → Prop, S2 = fun v X => ∃ b2, v = .map (some b2) ∧ W.heap.size ≤ b2 ∧ MapT X b2 (letS x) ∧ Below W.heap.size W X := ⟨_, rfl⟩
    obtain ⟨S3, hS3⟩ : ∃ S3 : World → Prop, S3 = fun X => (∃ ts, MapT X mb ts ∧ MonoT ts ∧ ∀ q, coefAt q ts = coefAt q (serW (pre ++ [x]))) ∧ W.grownBy X (some mb) := ⟨_, rfl⟩
    refine wpAnyIn_inv (fun listed a X => ∃ (b0 b1 b2 b3 : Bool) (t9 t10 t11 t12 : Value), listed = #[b0, b1, b2, b3] ∧ a = { tmps := #[.slice (some ⟨g, 0, none⟩) k cap, undef, .map none, .pointer (some ⟨w1.heap.size, 0, none⟩), .int .u8 (x.toNat : Int), .map (some mb), .slice (some ⟨g, 0, none⟩) k cap, .func (.func FV) #[] #[.pointer (some ⟨w1.heap.size + 1, 0, none⟩)], .int .u8 (x.toNat : Int), t9, t10, t11, t12, undef], defers := [] } ∧
      ((b0 = true → t9 = .map (some mb)) ∧ (b1 = true → t10 = .int .u8 (x.toNat : Int))) ∧
      ((b2 = true → b1 = true) ∧ (b3 = true → b2 = true ∧ b0 = true)) ∧
      ((b2 = false → X = W.drew) ∧ (b2 = true → b3 = false → S2 t11 X) ∧ (b3 = true → S3 X))) ?step ?rdone _ _ _ _ (by decide) ?init
    case init =>
      exact ⟨false, false, false, false, undef, undef, undef, undef, rfl, rfl, by simp, by simp, by simp⟩
    case step =>
      rintro listed a X i ⟨b0, b1, b2, b3, t9, t10, t11, t12, rfl, rfl, ⟨v0, v1⟩, ⟨c2, c3⟩, ⟨x0, x1, x2⟩⟩ hun hdep hi
      have hi' : i = 0 ∨ i = 1 ∨ i = 2 ∨ i = 3 := by
        have : i < 4 := hi
        omega
      rcases hi' with rfl | rfl | rfl | rfl
      · -- the map is loaded
        obtain rfl : b0 = false := hun
        have hx : X.cell? ⟨w1.heap.size, 0, none⟩ = some (.map (some mb)) := by
          cases b2 with
          | false => rw [x0 rfl]; exact hc3
          | true =>
            cases b3 with
            | false =>
              have h := x1 rfl rfl
              rw [hS2] at h
              obtain ⟨_, _, _, _, hb⟩ := h
              exact (hb.cell (p := ⟨w1.heap.size, 0, none⟩) hbl).trans hc3
            | true => have := (c3 rfl).2; cases this
        refine wpOpIn_step rfl (fun K' hK => ?_)
        go_simp
        refine hK _ _ ⟨true, _, _, _, _, _, _, _, rfl, rfl, ⟨fun _ => rfl, v1⟩, ⟨c2, fun h => ⟨(c3 h).1, rfl⟩⟩, ⟨x0, x1, x2⟩⟩
      · -- the letter
        obtain rfl : b1 = false := hun
        refine wpOpIn_step rfl (fun K' hK => ?_)
        go_simp
        refine hK _ _ ⟨_, true, _, _, _, _, _, _, rfl, rfl, ⟨v0, fun _ => rfl⟩, ⟨fun _ => rfl, c3⟩, ⟨x0, x1, x2⟩⟩
      · -- its series
        obtain rfl : b2 = false := hun
        obtain rfl : b1 = true := hdep _ rfl ⟨1, .data⟩ (by simp) rfl
        obtain rfl := v1 rfl
        obtain rfl := x0 rfl
        have q3 : b3 = false := by
          cases b3 with
          | false => rfl
          | true => have := (c3 rfl).1; cases this
        subst q3
        refine wpOpIn_step rfl (fun K' hK => ?_)
        go_simp
        refine ⟨trivial, fun _ => by omega, ?_⟩
        refine (CallsIn.inRound l (callsIn_wide.2 (HLS.out _))).mono ?_
        rintro e X' ⟨b, rfl, hb, hm, hbe⟩
        refine hK _ _ ⟨_, _, true, _, _, _, _, _, rfl, rfl, ⟨v0, fun _ => rfl⟩, ⟨fun _ => rfl, (fun h => nomatch h)⟩, ⟨(fun h => nomatch h), fun _ _ => ?_, (fun h => nomatch h)⟩⟩
        rw [hS2]
        exact ⟨b, rfl, hb, hm, (Below.refl _ W).drew.trans hbe⟩
      · -- the product
        obtain rfl : b3 = false := hun
        obtain rfl : b0 = true := hdep _ rfl ⟨0, .data⟩ (by simp) rfl
        obtain rfl : b2 = true := hdep _ rfl ⟨2, .data⟩ (by simp) rfl
        obtain rfl := v0 rfl
        have h := x1 rfl rfl
        rw [hS2] at h
        obtain ⟨bb, rfl, hbb, hm, hbe⟩ := h
        refine wpOpIn_step rfl (fun K' hK => ?_)
        go_simp
        refine ⟨trivial, fun _ => by omega, ?_⟩
        refine (CallsIn.inRound l (callsIn_wide.2 (HTM.out bb X (by omega) (HT.out.below hbe) hm))).mono ?_
        rintro e X' ⟨rfl, hts, hgr⟩
        refine hK _ _ ⟨_, _, _, true, _, _, _, _, rfl, rfl, ⟨fun _ => rfl, (by first | exact v1 | exact fun _ => rfl)⟩, ⟨c2, fun _ => ⟨rfl, rfl⟩⟩, ⟨(fun h => nomatch h), (fun _ h => nomatch h), fun _ => ?_⟩⟩
        rw [hS3]
        exact ⟨hts, ((grown_of_below hbe).but (some mb)).andThen hgr (fun j ej => by cases ej; exact Or.inr rfl)⟩
    case rdone =>
      rintro listed a X ⟨b0, b1, b2, b3, t9, t10, t11, t12, rfl, rfl, -, -, ⟨-, -, x2⟩⟩ hall
      have q0 : b0 = true := hall 0 _ rfl (fun e he => by simp at he)
      have q1 : b1 = true := hall 1 _ rfl (fun e he => by simp at he)
      have q2 : b2 = true := hall 2 _ rfl (by
        intro e he _
        simp at he
        rcases he with rfl
        all_goals first | exact q0 | exact q1)
      have q3 : b3 = true := hall 3 _ rfl (by
        intro e he _
        simp at he
        rcases he with rfl | rfl | rfl
        all_goals first | exact q0 | exact q1 | exact q2)
      have h := x2 q3
      rw [hS3] at h
      obtain ⟨hts, hgr⟩ := h
      have hbel : Below w.heap.size W X := (Below.refl _ W).grown hgr hws (fun j ej => by cases ej; omega)
      have hkf : KeepsFrom V.heap.size W X := KeepsFrom.of_grownBy hgr (fun j ej => by cases ej; omega)
      gi_wp2
      exact ⟨hkf, ⟨hbel, hkf⟩, ⟨HBX2.out.kept hgr (fun e => by cases e; omega), hts⟩, HB.out.trans hbel⟩
  case done =>
    rintro D W hD ⟨⟨hbx, us, hT, mU, hq⟩, hB⟩ hK
    have hDlt : D < W.heap.size := (Array.getElem?_eq_some_iff.1 hK).1
    have hc3 := hbx.cell
    have hws := hB.size
    have HK := Lib.hid hK
    have HB := Lib.hid hB
    have HF : Hid (MapT (W.putObj D (.deferred none)) mb us ∧ MonoT us ∧ ∀ q, coefAt q us = coefAt q (serW L)) := Lib.hid ⟨hT.kept (grownBy_putObj' W D (.deferred none)) (fun e => by cases e; omega), mU, hq⟩
    clear hK hB hT mU hq
    gi_wp2
    refine ⟨by simp, .inl ⟨_, _, rfl, run_takeDeferred HK.out, ?_⟩⟩
    refine ⟨.map (some mb), by simp [results, Try.f30, go_sem], mb, us, rfl, hlo, HF.out.1, HF.out.2.1, HF.out.2.2, ?_⟩
    exact HB.out.trans (belowK_b (w := w) (Nat.le_refl _) W D _ _ (by omega) HK.out rfl rfl)

/-! ### SeriesOf -/
set_option maxHeartbeats 2000000 in
theorem iSeriesOf_any (s : ByteArray) (b : Bool) (w : World) (hs : s.size ≤ maxLen) (hb : wordB s.data.toList = b) :
    Calls Try.prog 18 #[.string s] w (ITold w b (serW s.data.toList)) := by
  cases b with
  | false =>
    have HB := Lib.hid hb
    clear hb
    go_enter Try.func18, Try.ntmps18
    go_wp2_with fail
    refine (wordOf_no s _ hs HB.out).mono ?_
    rintro e w1 ⟨rfl, hb1⟩
    go_wp2
    go_ret2
    exact ⟨⟨_, rfl, ownNil _ _⟩, hb1⟩
  | true =>
    have HB := Lib.hid hb
    obtain ⟨h1, h2, _⟩ := (wordB_iff _).1 hb
    have hs60 : s.size ≤ 60 := by simpa using h1
    have HL := Lib.hid h2
    have HTW := Lib.hid (serW_tw hb rfl)
    have HOK := Lib.hid (serW_ok _ h2)
    clear hb h1 h2
    go_enter Try.func18, Try.ntmps18
    go_wp2_with fail
    refine (wordOf_yes s _ HB.out).mono ?_
    rintro e w1 ⟨g, cap, rfl, hown, hb1⟩
    have HW := Lib.hid (isWord_of_owns (n₀ := w1.heap.size) (l := s.data.toList) (by simp) (by omega) hown (Nat.le_refl _))
    have HB1 := Lib.hid hb1
    have hs1 := hb1.size
    clear hown hb1
    go_wp2_with fail
    refine ((callsIn_wide (n := 60)).1 (wordSeries_in 60 (by omega) g s.size cap s.data.toList w1 (by simp) hs60 HL.out HW.out)).mono ?_
    rintro e w2 ⟨mb, us, rfl, hlo, hT, mU, hq, hb2⟩
    have hlu := apart_len341 hT.apart mU
    have HC := Lib.hid (show canonT us = serW s.data.toList by rw [canon_same hq, canon_id HOK.out.canon])
    have HB2 := Lib.hid (HB1.out.trans (hb2.mono hs1))
    have hs2 := HB2.out.size
    have HT := Lib.hid hT
    clear hT mU hq hb2
    go_wp2_with fail
    refine (seriesTold_any mb us true _ HT.out (by omega) (by rw [HC.out]; exact HTW.out)).mono ?_
    rintro e w3 ⟨⟨v, rfl, ho⟩, hb3⟩
    rw [HC.out] at ho
    have HO := Lib.hid ho
    have HB3 := Lib.hid (HB2.out.trans (hb3.mono hs2))
    clear ho hb3
    go_wp2
    go_ret2
    exact ⟨⟨_, rfl, HO.out.mono hs2⟩, HB3.out⟩

/-! ### As a law wants them -/
theorem iSeriesOf_law {s : ByteArray} {b : Bool} {w : World} (hs : s.size ≤ maxLen) (hb : wordB s.data.toList = b) :
    Calls Try.prog 18 #[.string s] w (ITold w b (serW s.data.toList)) := iSeriesOf_any s b w hs hb

end Go.Proofs.Ytfhlceggihodeaa

/- The contracts of the program's 'SeriesCoef' and 'SeriesDepth'. -/

namespace Go.Proofs.Ytfhlceggihodeaa
open Go.RowKit Go.Shelf

set_option maxRecDepth 100000 in
set_option maxHeartbeats 4000000 in
theorem iSeriesDepth_any (s : ByteArray) (b : Bool) (z : Nat) (w : World) (hs : s.size ≤ maxLen) (h1 : wordB s.data.toList = b) (hz : cond b (depthT (serW s.data.toList)) 0 = z) :
    Calls Try.prog 7 #[.string s] w fun e w' => e = .returned (.tuple #[.int .i64 z, .bool b]) ∧ Below w.heap.size w w' := by
  have HZ := Lib.hid hz
  have H1 := Lib.hid h1
  have HS := Lib.hid (iSeriesOf_any s b w hs h1)
  obtain ⟨ts, hts⟩ : ∃ ts, cond b (serW s.data.toList) [] = ts := ⟨_, rfl⟩
  obtain ⟨hsm, hlen⟩ := told_smallS (serW_tw h1) hts
  obtain ⟨n, hn⟩ : ∃ n, ts.length = n := ⟨_, rfl⟩
  have HTS := Lib.hid hts
  have HN := Lib.hid hn
  have HSM := Lib.hid hsm
  rw [hn] at hlen
  clear h1 hz hts hsm hn
  go_enter Try.func7, Try.ntmps7
  go_wp2_with fail
  refine HS.out.mono ?_
  rintro e w1 ⟨⟨v1, rfl, ho1⟩, hb1⟩
  cases b with
  | false =>
    obtain rfl : z = 0 := HZ.out.symm
    clear ho1
    go_wp2
    go_ret2
    exact ⟨rfl, hb1⟩
  | true =>
    have ho1 : OwnT w.heap.size w1 v1 (serW s.data.toList) := ho1
    have hts : serW s.data.toList = ts := HTS.out
    rw [hts] at ho1
    obtain ⟨a1, c1, rfl, hI1⟩ := ho1.isTerms HSM.out
    rw [HN.out] at hI1 ⊢
    have HI := Lib.hid hI1
    have HZ2 : Hid (depthT ts = z) := Lib.hid (by rw [← hts]; exact HZ.out)
    have hl := (wordB_iff _).1 H1.out
    have hcan : Canon ts := by rw [← hts]; exact (serW_ok _ hl.2.1).canon
    have hno : coefAt noS ts = 1 := by rw [← hts]; exact serW_no _ hl.2.1
    have hpos := first_pos hcan hno
    rw [HN.out] at hpos
    have HB1 := Lib.hid hb1
    by_cases h1n : n = 1
    · obtain rfl : z = 0 := by rw [← HZ2.out]; exact depth_one hcan hno (by rw [HN.out]; exact h1n)
      have hd : decide ((n : Int) = 1) = true := decide_eq_true (by omega)
      clear ho1 hI1 hts hb1 hcan hno hl
      subst h1n
      go_wp2
      go_ret2
      exact ⟨rfl, HB1.out⟩
    · have h2n : 1 < ts.length := by rw [HN.out]; omega
      have hzz : ts[1].s.size = z := by rw [← HZ2.out, depth_two hcan hno h2n]
      obtain ⟨x, rfl, hx⟩ := HI.out.at_ (by omega)
      obtain ⟨t, ht⟩ : ∃ t, ts[1] = t := ⟨_, rfl⟩
      have hc := hx.2 1 h2n
      rw [ht, addr_next] at hc
      rw [ht] at hzz
      have d1 : w1.cell? ⟨x.block, x.off + 2 + 1, none⟩ = some (.string t.s) := hc.2
      clear hc
      have hd : decide ((n : Int) = 1) = false := decide_eq_false (by omega)
      have hn1 : ¬ (n : Int) = 1 := by omega
      have hln : 1 < n := by omega
      have hlni : (1 : Int) < (n : Int) := by omega
      subst hzz
      clear ho1 hI1 hts hb1 hcan hno hl ht hx
      go_wp2
      go_ret2
      exact ⟨rfl, HB1.out⟩

end Go.Proofs.Ytfhlceggihodeaa

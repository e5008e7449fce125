/- What the laws' proofs stand on, part 3 of 3. -/
import Derived.Shelf.SlSortCmp.WholeK
import Derived.Shelf.SlSortCmp.NoneTotal
import Derived.Laws.EntriesVeiled
import Derived.Deep.AppendLies
import Derived.Deep.RegionLaw
import Derived.Deep.RegionWith
import Derived.Lib.SliceRun
import Derived.Shelf.SlMaps.Clone
import Derived.Shelf.RegionOpenPlain
import Derived.RangeFuncBox
import Derived.RangeFuncNested
import Derived.WalkMore
import Derived.Test.YtdhmicpoigoleabBa
import Derived.Test.YtdhmicpoigoleabBb

/- How late the series of nested commutators begin, and how those of brackets of Lyndon words begin. -/

namespace Go.Proofs.Ytdhmicpoigoleab
open Go.RowKit

/-- Only the first beginning counts. -/
theorem conv_mid : ∀ (w : List UInt8) (f g : Fs) (p q : Nat), (∀ l, l.length < p → f l = 0) → (∀ l, l.length < q → g l = 0) → w.length = p + q → conv f g w = f (w.take p) * g (w.drop p)
  | [], f, g, p, q, hf, hg, hw => by
    rw [conv, List.take_nil, List.drop_nil]
  | c :: r, f, g, p, q, hf, hg, hw => by
    rw [conv]
    simp only [List.length_cons] at hw
    cases p with
    | zero =>
      have h1 : conv (fun u => f (c :: u)) g r = 0 := conv_low r _ g 0 q (fun l hl => absurd hl (Nat.not_lt_zero _)) hg (by omega)
      rw [h1, List.take_zero, List.drop_zero, Int.add_zero]
    | succ p =>
      rw [hf [] (by simp), Int.zero_mul, Int.zero_add, conv_mid r (fun u => f (c :: u)) g p q (fun l hl => hf (c :: l) (by simp; omega)) hg (by omega), List.take_succ_cons, List.drop_succ_cons]

/-- The series of a text is 1 and then begins not ahead of degree p. -/
def LowS (p : Nat) (a : List UInt8) : Prop := cs a [] = 1 ∧ ∀ l, 0 < l.length → l.length < p → cs a l = 0
theorem low_one {a : List UInt8} (ha : letL a = true) : LowS 1 a := ⟨serW_no a ha, fun l h1 h2 => by omega⟩
theorem letL_comm {a b : List UInt8} (ha : letL a = true) (hb : letL b = true) : letL (commL a b) = true := by
  unfold commL; rw [letL_append, letL_append, letL_append, ha, hb, letL_back a ha, letL_back b hb]; rfl
theorem low_comm {a b : List UInt8} (ha : letL a = true) (hb : letL b = true) {p q : Nat} (hA : LowS p a) (hB : LowS q b) (h4 : p + q ≤ 5) : LowS (p + q) (redL [] (commL a b)) := by
  have hlc := letL_comm ha hb
  refine ⟨serW_no _ (letL_redL _ [] hlc rfl), fun l h1 h2 => ?_⟩
  have e := cs_red (commL a b) [] hlc l (by omega)
  rw [List.nil_append] at e
  rw [e]
  refine (comm_low ha hb hA.1 hB.1 hA.2 hB.2 l (by omega) h2).trans ?_
  unfold oneF
  rw [if_neg (fun e => by rw [e] at h1; exact Nat.lt_irrefl _ h1)]

/-- The first coefficients of a commutator. -/
theorem comm_lead {a b : List UInt8} (ha : letL a = true) (hb : letL b = true) {p q : Nat} (hp : 0 < p) (hq : 0 < q) (hA : LowS p a) (hB : LowS q b) (w : List UInt8) (hw4 : w.length ≤ 4) (hw : w.length = p + q) :
    cs (redL [] (commL a b)) w = cs a (w.take p) * cs b (w.drop p) - cs b (w.take q) * cs a (w.drop q) := by
  have e0 := cs_red (commL a b) [] (letL_comm ha hb) w hw4
  rw [List.nil_append] at e0
  rw [e0]
  obtain ⟨u, hu⟩ : ∃ u : Fs, u = fun l => cs a l - oneF l := ⟨_, rfl⟩
  obtain ⟨v, hv⟩ : ∃ v : Fs, v = fun l => cs b l - oneF l := ⟨_, rfl⟩
  have hu0 : ∀ l, l.length < p → u l = 0 := fun l hl => by
    rw [hu]
    cases l with
    | nil => simp [oneF, hA.1]
    | cons c r => simp only [hA.2 (c :: r) (by simp) hl]; simp [oneF]
  have hv0 : ∀ l, l.length < q → v l = 0 := fun l hl => by
    rw [hv]
    cases l with
    | nil => simp [oneF, hB.1]
    | cons c r => simp only [hB.2 (c :: r) (by simp) hl]; simp [oneF]
  have hun : ∀ l, 0 < l.length → u l = cs a l := fun l hl => by
    rw [hu]
    show cs a l - oneF l = _
    unfold oneF
    rw [if_neg (fun e => by rw [e] at hl; exact Nat.lt_irrefl _ hl)]; omega
  have hvn : ∀ l, 0 < l.length → v l = cs b l := fun l hl => by
    rw [hv]
    show cs b l - oneF l = _
    unfold oneF
    rw [if_neg (fun e => by rw [e] at hl; exact Nat.lt_irrefl _ hl)]; omega
  have ea : cs a = fun l => oneF l + u l := by funext l; rw [hu]; show _ = oneF l + (cs a l - oneF l); omega
  have eb : cs b = fun l => oneF l + v l := by funext l; rw [hv]; show _ = oneF l + (cs b l - oneF l); omega
  have hR1 : ∀ l, conv (cs a) (cs b) l - conv (cs b) (cs a) l = conv u v l - conv v u l := fun l => by
    have h1 : conv (cs a) (cs b) l = oneF l + v l + (u l + conv u v l) := by
      rw [ea, conv_add1 l oneF u, conv_one1]
      rw [eb, conv_add2 l u oneF v, conv_one2]
    have h2 : conv (cs b) (cs a) l = oneF l + u l + (v l + conv v u l) := by
      rw [eb, conv_add1 l oneF v, conv_one1]
      rw [ea, conv_add2 l v oneF u, conv_one2]
    rw [h1, h2]
    omega
  have hR : ∀ l, l.length < p + q → conv (cs a) (cs b) l - conv (cs b) (cs a) l = 0 := fun l hl => by
    rw [hR1, conv_low l u v p q hu0 hv0 hl, conv_low l v u q p hv0 hu0 (by omega)]; rfl
  have hZ : Eq4 (cs (backL a ++ backL b)) (conv (cs (backL a)) (cs (backL b))) := cs_append _ _
  have hZ0 : conv (cs (backL a)) (cs (backL b)) [] = 1 := by
    rw [conv]
    have h1 : cs (backL a) [] = 1 := serW_no _ (letL_back a ha)
    have h2 : cs (backL b) [] = 1 := serW_no _ (letL_back b hb)
    rw [h1, h2]; rfl
  have h1 : cs (commL a b) w = conv (conv (cs a) (cs b)) (conv (cs (backL a)) (cs (backL b))) w := by
    unfold commL
    rw [List.append_assoc (a ++ b)]
    exact (((cs_append _ _).trans ((cs_append a b).mul hZ)) w hw4)
  have h2 : conv (conv (cs b) (cs a)) (conv (cs (backL a)) (cs (backL b))) w = 0 := by
    have h : Eq4 (conv (conv (cs b) (cs a)) (conv (cs (backL a)) (cs (backL b)))) oneF := by
      refine (eq4_assoc _ _ _).trans ?_
      refine ((Eq4.refl _).mul ((eq4_assoc _ _ _).symm.trans (((cs_back a ha).mul (Eq4.refl _)).trans (eq4_one1 _)))).trans ?_
      exact cs_back b hb
    rw [h w hw4]
    unfold oneF
    rw [if_neg (fun e => by rw [e] at hw; simp at hw; omega)]
  have h3 := conv_mid w (fun l => conv (cs a) (cs b) l - conv (cs b) (cs a) l) (conv (cs (backL a)) (cs (backL b))) (p + q) 0 hR (fun l hl => absurd hl (Nat.not_lt_zero _)) (by omega)
  rw [conv_sub1 w (conv (cs a) (cs b)) (conv (cs b) (cs a)), List.take_of_length_le (by omega), List.drop_of_length_le (by omega), hZ0, Int.mul_one, hR1, conv_mid w u v p q hu0 hv0 hw, conv_mid w v u q p hv0 hu0 (by omega)] at h3
  rw [hun _ (by rw [List.length_take]; omega), hvn _ (by rw [List.length_drop]; omega), hvn _ (by rw [List.length_take]; omega), hun _ (by rw [List.length_drop]; omega)] at h3
  rw [h1]
  omega

theorem commO_word {x y t : ByteArray} (h : commO x y = some t) : letL x.data.toList = true ∧ letL y.data.toList = true ∧ t.data.toList = redL [] (commL x.data.toList y.data.toList) ∧ wordB t.data.toList = true := by
  unfold commO at h
  split at h
  · rename_i hc
    cases h
    have h1 := ((wordB_iff _).1 hc.1).2.1
    have h2 := ((wordB_iff _).1 hc.2.1).2.1
    rw [bstr_toList]
    exact ⟨h1, h2, rfl, (wordB_iff _).2 ⟨hc.2.2, letL_redL _ [] (letL_comm h1 h2) rfl, red_red _⟩⟩
  · cases h
/-- Nested commutators of k texts begin not ahead of degree k. -/
theorem nest_low {zs : List ByteArray} : ∀ (k : Nat) (t : ByteArray), k ≤ 5 → nestN zs k = some t → LowS k t.data.toList ∧ wordB t.data.toList = true
  | 0, _, _, h => by cases h
  | 1, t, _, h => by
    rw [nestN] at h
    split at h
    · rename_i hw
      cases h
      exact ⟨low_one ((wordB_iff _).1 hw).2.1, hw⟩
    · cases h
  | k + 2, t, h5, h => by
    rw [nestN] at h
    cases hx : nestN zs (k + 1) with
    | none => rw [hx] at h; cases h
    | some x =>
      rw [hx, Option.bind_some] at h
      obtain ⟨h1, h2, h3, h4⟩ := commO_word h
      refine ⟨?_, h4⟩
      rw [h3]
      exact low_comm (p := k + 1) (q := 1) h1 h2 (nest_low (k + 1) x (by omega) hx).1 (low_one h2) (by omega)

/-! ### How texts of one size compare -/
theorem bl_split : ∀ {a c : List UInt8} (b d : List UInt8), a.length = c.length → Op.bytesLess (a ++ b) (c ++ d) = true → Op.bytesLess a c = true ∨ (a = c ∧ Op.bytesLess b d = true)
  | [], [], b, d, _, h => .inr ⟨rfl, h⟩
  | [], _ :: _, _, _, hl, _ => by simp at hl
  | _ :: _, [], _, _, hl, _ => by simp at hl
  | x :: a, y :: c, b, d, hl, h => by
    have e1 : Op.bytesLess (x :: a) (y :: c) = (decide (x < y) || (x == y && Op.bytesLess a c)) := by rw [Op.bytesLess]
    have e2 : Op.bytesLess (x :: (a ++ b)) (y :: (c ++ d)) = (decide (x < y) || (x == y && Op.bytesLess (a ++ b) (c ++ d))) := by rw [Op.bytesLess]
    rw [List.cons_append, List.cons_append, e2] at h
    rw [e1]
    simp only [Bool.or_eq_true, Bool.and_eq_true, decide_eq_true_eq, beq_iff_eq] at h ⊢
    rcases h with h | ⟨rfl, h⟩
    · exact .inl (.inl h)
    · rcases bl_split b d (by simpa using hl) h with h3 | ⟨h4, h5⟩
      · exact .inl (.inr ⟨rfl, h3⟩)
      · subst h4
        exact .inr ⟨rfl, h5⟩
/-- A text of as many letters that is not greater than a Lyndon word begins less than its end. -/
theorem begins_less {u v w : List UInt8} (hs : Lyn (u ++ v)) (hu : u ≠ []) (hv : v ≠ []) (hl : w.length = u.length + v.length) (hw : w = u ++ v ∨ Op.bytesLess w (u ++ v) = true) : Op.bytesLess (w.take v.length) v = true := by
  have hlu := List.length_pos_iff.2 hu
  have hsv := hs.2 u v rfl hu hv
  have hwv : Op.bytesLess w v = true := by
    rcases hw with rfl | h
    · exact hsv
    · exact bl_trans _ _ _ h hsv
  have h1 : Op.bytesLess (w.take v.length ++ w.drop v.length) (v ++ []) = true := by rw [List.take_append_drop, List.append_nil]; exact hwv
  rcases bl_split _ _ (by rw [List.length_take]; omega) h1 with h | ⟨_, h⟩
  · exact h
  · cases hd : w.drop v.length with
    | nil => rw [hd] at h; cases h
    | cons c r => rw [hd] at h; cases h

/-- How the series of a bracket begins: with its word, and with nothing less. -/
structure LeadS (s t : List UInt8) : Prop where
  low : LowS s.length t
  at_ : cs t s = 1
  less : ∀ w, w.length = s.length → Op.bytesLess w s = true → cs t w = 0
theorem lead_one {s : List UInt8} (h1 : s.length = 1) (hg : s.all genB = true) : LeadS s s := by
  obtain ⟨c, rfl⟩ : ∃ c, s = [c] := by
    match s, h1 with
    | [c], _ => exact ⟨c, rfl⟩
  have hgc : genB c = true := by simpa using hg
  unfold genB at hgc
  simp only [Bool.and_eq_true, decide_eq_true_eq] at hgc
  have hlc : letB c = true := (letB_iff c).2 (.inl hgc)
  have hla : letL [c] = true := by rw [letL_cons, hlc]; rfl
  have hlx : letX c = [c] := by
    have h : ∀ n : Fin 4, letX (UInt8.ofNat (97 + n.val)) = [UInt8.ofNat (97 + n.val)] := by decide +kernel
    have := h ⟨c.toNat - 97, by omega⟩
    simpa [show 97 + (c.toNat - 97) = c.toNat by omega] using this
  have hcf : ∀ x : UInt8, cs [c] [x] = if x = c then 1 else 0 := fun x => by
    rw [cs_one c [x] (by simp)]
    unfold cf letS
    rw [if_pos hgc.1, hlx]
    unfold coefAt
    rw [if_neg (fun e => by have := congrArg ByteArray.size e; rw [bstr_size] at this; cases this)]
    unfold coefAt
    by_cases e : x = c
    · subst e; rw [if_pos rfl, if_pos rfl]; rfl
    · rw [if_neg e, if_neg (fun e2 => e (by have := congrArg (fun b => b.data.toList) e2; simp only [bstr_toList] at this; exact (List.cons.inj this).1.symm))]; rfl
  refine ⟨low_one hla, by rw [hcf, if_pos rfl], fun w hw hl => ?_⟩
  obtain ⟨x, rfl⟩ : ∃ x, w = [x] := by
    match w, hw with
    | [x], _ => exact ⟨x, rfl⟩
  rw [hcf, if_neg (fun e => by rw [e, bl_irrefl] at hl; cases hl)]
theorem lead_comm {u v x y : List UInt8} (hs : Lyn (u ++ v)) (hu : u ≠ []) (hv : v ≠ []) (h4 : u.length + v.length ≤ 4) (hx : letL x = true) (hy : letL y = true) (hX : LeadS u x) (hY : LeadS v y) : LeadS (u ++ v) (redL [] (commL x y)) := by
  have hlu := List.length_pos_iff.2 hu
  have hlv := List.length_pos_iff.2 hv
  have hlow := low_comm hx hy hX.low hY.low (by omega)
  have hlead : ∀ w : List UInt8, w.length = u.length + v.length → (w = u ++ v ∨ Op.bytesLess w (u ++ v) = true) → cs (redL [] (commL x y)) w = cs x (w.take u.length) * cs y (w.drop u.length) := fun w hw hle => by
    rw [comm_lead hx hy hlu hlv hX.low hY.low w (by omega) hw, hY.less (w.take v.length) (by rw [List.length_take]; omega) (begins_less hs hu hv hw hle), Int.zero_mul, Int.sub_zero]
  refine ⟨by rw [List.length_append]; exact hlow, ?_, fun w hw hl => ?_⟩
  · rw [hlead (u ++ v) (by rw [List.length_append]) (.inl rfl), List.take_left, List.drop_left, hX.at_, hY.at_]; rfl
  · rw [List.length_append] at hw
    rw [hlead w hw (.inr hl)]
    have h1 : Op.bytesLess (w.take u.length ++ w.drop u.length) (u ++ v) = true := by rw [List.take_append_drop]; exact hl
    rcases bl_split _ _ (by rw [List.length_take]; omega) h1 with h | ⟨h2, h⟩
    · rw [hX.less _ (by rw [List.length_take]; omega) h, Int.zero_mul]
    · rw [hY.less _ (by rw [List.length_drop]; omega) h, Int.mul_zero]
theorem bracket_word : ∀ {f : Nat} {s t : ByteArray}, bracketF f s = some t → wordB t.data.toList = true
  | 0, _, _, h => by cases h
  | f + 1, s, t, h => by
    rw [bracketF] at h
    split at h
    · cases h
    · rename_i hl
      split at h
      · rename_i h1
        cases h
        have hl : lynB s = true := by simpa using hl
        unfold lynB text12 at hl
        simp only [Bool.and_eq_true, decide_eq_true_eq] at hl
        obtain ⟨c, hc⟩ : ∃ c, s.data.toList = [c] := by
          have hln : s.data.toList.length = 1 := by simpa using h1
          match s.data.toList, hln with
          | [c], _ => exact ⟨c, rfl⟩
        have hg := hl.1.1
        rw [hc] at hg ⊢
        have hgc : genB c = true := by simpa using hg
        unfold genB at hgc
        simp only [Bool.and_eq_true, decide_eq_true_eq] at hgc
        have hlc : letB c = true := (letB_iff c).2 (.inl hgc)
        refine (wordB_iff _).2 ⟨by simp, by rw [letL_cons, hlc]; rfl, ?_⟩
        rfl
      · cases hx : bracketF f (s.extract 0 (splitI s.data.toList)) with
        | none => rw [hx] at h; cases h
        | some x =>
          rw [hx, Option.bind_some] at h
          cases hy : bracketF f (s.extract (splitI s.data.toList) s.size) with
          | none => rw [hy] at h; cases h
          | some y => rw [hy, Option.bind_some] at h; exact (commO_word h).2.2.2
theorem bracket_lead : ∀ {f : Nat} {s t : ByteArray}, s.size ≤ 4 → bracketF f s = some t → LeadS s.data.toList t.data.toList
  | 0, _, _, _, h => by cases h
  | f + 1, s, t, h4, h => by
    rw [bracketF] at h
    split at h
    · cases h
    · rename_i hl
      have hlb : lynB s = true := by simpa using hl
      have hln : s.data.toList.length = s.size := by simp
      have hlb2 := hlb
      unfold lynB text12 at hlb2
      simp only [Bool.and_eq_true, decide_eq_true_eq] at hlb2
      split at h
      · rename_i h1
        cases h
        exact lead_one (by omega) hlb2.1.1
      · rename_i h1
        have h0 := (lynB_size hlb).2
        have h2 : 2 ≤ s.data.toList.length := by omega
        obtain ⟨hi1, hi2⟩ := splitI_in h2
        have hL := (lynL_iff _).1 hlb2.2
        have e1 : (s.extract 0 (splitI s.data.toList)).data.toList = s.data.toList.take (splitI s.data.toList) := by rw [extract_take, bstr_toList]
        have e2 : (s.extract (splitI s.data.toList) s.size).data.toList = s.data.toList.drop (splitI s.data.toList) := by rw [← extract_drop, ByteArray.toList_eq]
        cases hx : bracketF f (s.extract 0 (splitI s.data.toList)) with
        | none => rw [hx] at h; cases h
        | some x =>
          rw [hx, Option.bind_some] at h
          cases hy : bracketF f (s.extract (splitI s.data.toList) s.size) with
          | none => rw [hy] at h; cases h
          | some y =>
            rw [hy, Option.bind_some] at h
            have hX := bracket_lead (by rw [ByteArray.size_extract]; omega) hx
            have hY := bracket_lead (by rw [ByteArray.size_extract]; omega) hy
            rw [e1] at hX
            rw [e2] at hY
            obtain ⟨g1, g2, g3, _⟩ := commO_word h
            rw [g3]
            have hcat := (List.take_append_drop (splitI s.data.toList) s.data.toList).symm
            rw [hcat]
            refine lead_comm (by rw [← hcat]; exact hL) (fun e => ?_) (fun e => ?_) (by rw [List.length_take, List.length_drop]; omega) g1 g2 ?_ ?_
            · have := congrArg List.length e
              rw [List.length_take, List.length_nil] at this
              omega
            · have := congrArg List.length e
              rw [List.length_drop, List.length_nil] at this
              omega
            · exact hX
            · exact hY

theorem bracket_lyn {s t : ByteArray} (h : bracketO s = some t) : lynB s = true := by
  unfold bracketO at h
  rw [bracketF] at h
  split at h
  · cases h
  · rename_i hl
    simpa using hl

/-! ### Depths -/
theorem depth_zero {ts : List Tm} (hc : Canon ts) (h1 : coefAt noS ts = 1) (hd : depthT ts = 0) {q : ByteArray} (h0 : 0 < q.size) : coefAt q ts = 0 := by
  obtain ⟨u, r, rfl, hu, _, hr⟩ := canon_first hc h1
  cases r with
  | nil =>
    refine coefAt_none fun v hv e => ?_
    rw [List.mem_singleton.1 hv, hu] at e
    rw [← e] at h0; exact absurd h0 (Nat.not_lt_zero _)
  | cons t r =>
    rw [depthT, if_pos (no_iff.1 hu), depthT, if_neg (hr t (by simp))] at hd
    exact absurd hd (hr t (by simp))
theorem low_depth {l : List UInt8} (hl : letL l = true) {k : Nat} (h : LowS k l) (hd : depthT (serW l) ≠ 0) : k ≤ depthT (serW l) := by
  have hok := serW_ok l hl
  obtain ⟨t, ht, hts, htc⟩ := depth_at hok.canon (serW_no l hl) hd
  by_cases hlt : k ≤ depthT (serW l)
  · exact hlt
  · exfalso
    apply htc
    have hlen : t.s.data.toList.length = t.s.size := by simp
    rw [← cs_at]
    exact h.2 _ (by omega) (by omega)
theorem lead_depth {s t : List UInt8} (ht : letL t = true) (h0 : 0 < s.length) (h : LeadS s t) : depthT (serW t) = s.length := by
  have hok := serW_ok t ht
  have hsz : (bstr s).size = s.length := bstr_size s
  have h1 : coefAt (bstr s) (serW t) = 1 := h.at_
  have hd0 : depthT (serW t) ≠ 0 := fun e => by
    rw [depth_zero hok.canon (serW_no t ht) e (by omega)] at h1
    cases h1
  have hge := low_depth ht h.low hd0
  by_cases hlt : s.length < depthT (serW t)
  · rw [depth_below hok.canon (serW_no t ht) (q := bstr s) (by omega) (by omega)] at h1
    cases h1
  · omega

end Go.Proofs.Ytdhmicpoigoleab

/- The contracts of the program's 'generatorsOnly', 'fitsLyndon' and 'LyndonIn'. -/

namespace Go.Proofs.Ytdhmicpoigoleab
open Go.RowKit Go.Shelf

attribute [local go_sem] Oper.semAt_some

def genL (l : List UInt8) : Bool := l.all genB
theorem genL_append (a b : List UInt8) : genL (a ++ b) = (genL a && genL b) := by simp [genL]
theorem genL_prefix {p l : List UInt8} (hp : p <+: l) (h : genL p = false) : genL l = false := by
  obtain ⟨r, rfl⟩ := hp
  rw [genL_append, h]; rfl
theorem genB_let (c : UInt8) : genB c = (letB c && decide (0 ≤ sgnB c)) := by
  have h : ∀ n : Fin 256, genB (UInt8.ofNat n.val) = (letB (UInt8.ofNat n.val) && decide (0 ≤ sgnB (UInt8.ofNat n.val))) := by decide +kernel
  have := h ⟨c.toNat, c.toNat_lt⟩
  simpa using this

set_option maxRecDepth 100000 in
set_option maxHeartbeats 1000000 in
theorem gens_in (n : Nat) (hn : 30 ≤ n) (s : ByteArray) (w : World) (hs : s.size ≤ 12) :
    CallsIn Fence.wide n Try.prog 48 #[.string s] w fun e w' => e = .returned (.bool (genL s.data.toList)) ∧ Below w.heap.size w w' := by
  refine callsIn_of_wp_marks Try.func48 rfl trivial ?_ rfl
  simp only [Try.ntmps48, List.size_toArray, List.length_cons, List.length_nil, Nat.reduceAdd, Nat.reduceSub, Array.replicate_succ, Array.replicate_zero, List.push_toArray, List.append_toArray, List.nil_append, List.cons_append]
  gi_wp2_with fail
  refine ⟨trivial, fun _ => by omega, ?_⟩
  refine (callsIn_wide.2 (signsOf_any s _)).mono ?_
  rintro e w1 ⟨rfl, rfl⟩
  have b1 := (Boxed.new w 4 (.bool false)).alloc (.cells #[.string s] 9)
  have b2 := Boxed.new (w.alloc (.cells #[.bool false] 4)) 9 (.string s)
  rw [World.size_alloc] at b2
  have hB0 : Below w.heap.size w ((w.alloc (.cells #[.bool false] 4)).alloc (.cells #[.string s] 9)) := ((Below.refl _ w).alloc (Nat.le_refl _) _).alloc (by simp) _
  have hsz : ((w.alloc (.cells #[.bool false] 4)).alloc (.cells #[.string s] 9)).heap.size = w.heap.size + 2 := by simp
  obtain ⟨W0, hW0⟩ : ∃ W0, ((w.alloc (.cells #[.bool false] 4)).alloc (.cells #[.string s] 9)) = W0 := ⟨_, rfl⟩
  simp only [World.size_alloc]
  rw [hW0] at b1 b2 hB0 hsz ⊢
  clear hW0
  gi_wp2
  refine wpIn_rangeFunc_ownG rfl (by omega) (gf := 79) (lb := #[.pointer (some ⟨w.heap.size + 1, 0, none⟩)]) rfl trivial (enters_of Try.func79 (by kernel_rfl) rfl)
    (signs_seq s (by omega) W0 (w.heap.size + 1) W0.heap.size (by omega) (Nat.le_refl _) b2.cell (n - 1) (by omega)) belowK_t (belowK_b (Nat.le_refl _)) (Below.refl _ _) (fun _ => rfl)
    (fun pre W => Boxed W w.heap.size 4 (.bool false) ∧ genL pre = true ∧ Below W0.heap.size W0 W)
    (fun c pre W => ((c = .ret ∧ genL pre = false) ∧ Boxed W w.heap.size 4 (.bool false)) ∧ Below w.heap.size w W)
    (OwnFrom.and (Own.from (fun s A B row hs hg hr => boxed_own w.heap.size _ (fun _ : Unit => .bool false) () A B row hs hg hr) _) (OwnFrom.and (ownFrom_pure _ _) (ownFrom_below (Nat.le_refl _) (Nat.le_refl _))))
    (fun c => OwnFrom.and (Own.from (fun s A B row hs hg hr => ⟨hs.1, boxed_own w.heap.size _ (fun _ : Unit => .bool false) () A B row hs.2 hg hr⟩) _) (ownFrom_below (Nat.le_refl _) (by omega)))
    ⟨b1, rfl, Below.refl _ _⟩
    (fun x => { tmps := #[.string s, undef, .pointer (some ⟨w.heap.size, 0, none⟩), .int .u8 (x.toNat : Int), .string s, .func (.func 79) #[] #[.pointer (some ⟨w.heap.size + 1, 0, none⟩)], .int .u8 (x.toNat : Int), undef, undef, undef, undef, undef, undef, undef, undef], defers := [] }) ?assign ?body ?done ?stop
  case assign =>
    intro l x W K hK
    gi_wp2
    exact hK
  case body =>
    rintro l pre x W ⟨c1, hl, hB⟩ hlen
    have d1 := c1.cell
    have f1 := c1.frozen
    have C1 := Lib.hid c1
    have HL := Lib.hid hl
    have hBw : Below w.heap.size w W := hB0.trans (hB.mono (by omega))
    have HBw := Lib.hid hBw
    clear c1 hl hBw
    cases hx : letB x with
    | true =>
      have HX := Lib.hid hx
      by_cases hsg : 0 ≤ sgnB x
      · have hg : genB x = true := by rw [genB_let, hx]; simp [hsg]
        have HG := Lib.hid hg
        obtain ⟨u, hu⟩ : ∃ u, sgnB x = u := ⟨_, rfl⟩
        have HSX := Lib.hid (show ∀ W, Calls Try.prog 66 #[.int .u8 (x.toNat : Int)] W fun e w' => e = .returned (.int .i64 u) ∧ w' = W from fun W => by rw [← hu]; exact iSign_any x W hx)
        rw [hu] at hsg
        have hneg : ¬ u < 0 := by omega
        have hdu : decide (u < 0) = false := decide_eq_false hneg
        clear hx hg hu
        gi_wp2_with fail
        refine ⟨trivial, fun _ => by omega, ?_⟩
        refine (CallsIn.inRound l (callsIn_wide.2 (known_is x true W HX.out))).mono ?_
        rintro e w1 ⟨rfl, rfl⟩
        gi_wp2_with fail
        refine ⟨trivial, fun _ => by omega, ?_⟩
        refine (CallsIn.inRound l (callsIn_wide.2 (HSX.out _))).mono ?_
        rintro e w2 ⟨rfl, rfl⟩
        gi_wp2
        exact ⟨KeepsFrom.refl _ _, Below.refl _ _, C1.out, by rw [genL_append, HL.out]; simp [genL, HG.out], hB⟩
      · have hg : genB x = false := by rw [genB_let, hx]; simp [hsg]
        have HG := Lib.hid hg
        obtain ⟨u, hu⟩ : ∃ u, sgnB x = u := ⟨_, rfl⟩
        have HSX := Lib.hid (show ∀ W, Calls Try.prog 66 #[.int .u8 (x.toNat : Int)] W fun e w' => e = .returned (.int .i64 u) ∧ w' = W from fun W => by rw [← hu]; exact iSign_any x W hx)
        rw [hu] at hsg
        have hneg : u < 0 := by omega
        have hdu : decide (u < 0) = true := decide_eq_true hneg
        clear hx hg hu
        gi_wp2_with fail
        refine ⟨trivial, fun _ => by omega, ?_⟩
        refine (CallsIn.inRound l (callsIn_wide.2 (known_is x true W HX.out))).mono ?_
        rintro e w1 ⟨rfl, rfl⟩
        gi_wp2_with fail
        refine ⟨trivial, fun _ => by omega, ?_⟩
        refine (CallsIn.inRound l (callsIn_wide.2 (HSX.out _))).mono ?_
        rintro e w2 ⟨rfl, rfl⟩
        gi_wp2
        exact ⟨(KeepsOthers.setCell _ _ _).from _, ⟨⟨rfl, by rw [genL_append]; simp [genL, HG.out]⟩, C1.out.set _⟩, HBw.out.setCell (p := ⟨w.heap.size, 0, none⟩) (Nat.le_refl _) _⟩
    | false =>
      have HX := Lib.hid hx
      have HG := Lib.hid (show genB x = false by rw [genB_let, hx]; rfl)
      clear hx
      gi_wp2_with fail
      refine ⟨trivial, fun _ => by omega, ?_⟩
      refine (CallsIn.inRound l (callsIn_wide.2 (known_is x false W HX.out))).mono ?_
      rintro e w1 ⟨rfl, rfl⟩
      gi_wp2_with fail
      refine ⟨trivial, ?_⟩
      gi_wp2
      exact ⟨(KeepsOthers.setCell _ _ _).from _, ⟨⟨rfl, by rw [genL_append]; simp [genL, HG.out]⟩, C1.out.set _⟩, HBw.out.setCell (p := ⟨w.heap.size, 0, none⟩) (Nat.le_refl _) _⟩
  case done =>
    rintro D ys W hD rfl ⟨c1, hl, hB⟩ hK
    have hBW : Below w.heap.size w W := hB0.trans (hB.mono (by omega))
    have hDlt : D < W.heap.size := (Array.getElem?_eq_some_iff.1 hK).1
    have d1 := c1.cell
    have f1 := c1.frozen
    have C1 := Lib.hid c1
    have HK := Lib.hid hK
    have HL := Lib.hid hl
    clear c1 hK hl
    gi_wp2
    obtain ⟨W5, hW5⟩ : ∃ W5, W.setCell ⟨w.heap.size, 0, none⟩ (.bool true) = W5 := ⟨_, rfl⟩
    have e1 : Boxed W5 w.heap.size 4 (.bool true) := by rw [← hW5]; exact C1.out.set _
    have hK5 : W5.heap[D]? = some (.deferred (some [])) := by rw [← hW5]; exact (KeepsOthers.setCell _ _ _).same D _ HK.out rfl
    have hB5 : Below w.heap.size w W5 := by rw [← hW5]; exact hBW.setCell (p := ⟨w.heap.size, 0, none⟩) (Nat.le_refl _) _
    rw [hW5]
    clear hW5
    refine ⟨by simp, .inl ⟨_, _, rfl, run_takeDeferred hK5, ?_⟩⟩
    have g1 := (e1.kept (grownBy_putObj' W5 D (.deferred none)) (fun e => by cases e; omega)).cell
    refine ⟨.bool true, by simp [results, Try.f48, go_sem, g1], by rw [HL.out], hB5.trans (belowK_b (w := w) (Nat.le_refl _) W5 D _ _ (by omega) hK5 rfl rfl)⟩
  case stop =>
    rintro D c pre W hD hpre ⟨⟨⟨rfl, hl⟩, c1⟩, hB⟩ hK
    gi_wp2
    refine ⟨by simp, .inl ⟨_, _, rfl, run_takeDeferred hK, ?_⟩⟩
    have e1 := (c1.kept (grownBy_putObj' W D (.deferred none)) (fun e => by cases e; omega)).cell
    refine ⟨.bool false, by simp [results, Try.f48, go_sem, e1], by rw [genL_prefix hpre hl], hB.trans (belowK_b (w := w) (Nat.le_refl _) W D _ _ (by omega) hK rfl rfl)⟩

theorem gens_any (s : ByteArray) (b : Bool) (w : World) (hs : s.size ≤ 12) (hb : genL s.data.toList = b) :
    Calls Try.prog 48 #[.string s] w fun e w' => e = .returned (.bool b) ∧ Below w.heap.size w w' := by
  rw [← hb]; exact (callsIn_wide (n := 30)).1 (gens_in 30 (by omega) s w hs)

end Go.Proofs.Ytdhmicpoigoleab

/- The contracts of the program's 'known' (of a monomial), 'ofSeries' and 'SeriesIn'. -/

namespace Go.Proofs.Ytdhmicpoigoleab
open Go.RowKit Go.Shelf

attribute [local go_sem] Oper.semAt_some

set_option maxRecDepth 100000 in
set_option maxHeartbeats 1000000 in
theorem known4_any (s : ByteArray) (w : World) (hs : s.size ≤ maxLen) :
    Calls Try.prog 28 #[.string s] w fun e w' => e = .returned (.bool (monoB s)) ∧ Below w.heap.size w w' := by
  obtain ⟨b, hb⟩ : ∃ b, genL s.data.toList = b := ⟨_, rfl⟩
  have HB := Lib.hid hb
  clear hb
  unfold maxLen at hs
  by_cases h : s.size ≤ 4
  · have hm : monoB s = b := by
      rw [← HB.out]
      unfold monoB genL
      rw [decide_eq_true h, Bool.and_true]
    have hi : (s.size : Int) ≤ 4 := by omega
    rw [hm]
    clear hm
    go_enter Try.func28, Try.ntmps28
    go_wp2_with fail
    refine (gens_any s b _ (by omega) HB.out).mono ?_
    rintro e w1 ⟨rfl, hb1⟩
    go_wp2
    go_ret
    exact ⟨rfl, hb1⟩
  · have hm : monoB s = false := by unfold monoB; rw [decide_eq_false h, Bool.and_false]
    have hi : ¬ (s.size : Int) ≤ 4 := by omega
    rw [hm]
    clear hm
    go_enter Try.func28, Try.ntmps28
    go_wp2
    go_ret
    exact ⟨rfl, Below.refl _ w⟩
theorem known4_is (s : ByteArray) (b : Bool) (w : World) (hs : s.size ≤ maxLen) (hb : monoB s = b) :
    Calls Try.prog 28 #[.string s] w fun e w' => e = .returned (.bool b) ∧ Below w.heap.size w w' := by rw [← hb]; exact known4_any s w hs

end Go.Proofs.Ytdhmicpoigoleab

/- The contracts of the program's 'ofSeries' and 'SeriesIn'. -/

namespace Go.Proofs.Ytdhmicpoigoleab
open Go.RowKit Go.Shelf

attribute [local go_sem] Oper.semAt_some

/-- Is a term as a series wants it? -/
def okT (t : Tm) : Bool := monoB t.s && (inR (-1000000) 1000000 t.c && !(t.c == 0))
theorem all_mem {f g : Tm → Bool} : ∀ {l : List Tm}, (∀ t ∈ l, f t = g t) → l.all f = l.all g
  | [], _ => rfl
  | t :: r, h => by rw [List.all_cons, List.all_cons, h t (by simp), all_mem fun u hu => h u (List.mem_cons_of_mem _ hu)]
theorem serB_eq (ts : List Tm) : serB ts = (decide (ts.length ≤ 400) && (ascB ts && ts.all okT)) := by
  by_cases hc : Canon ts
  · rw [serB_canon hc, ascB_canon hc, Bool.true_and]
    unfold twS
    congr 1
    refine all_mem fun t ht => ?_
    unfold okT
    have : (t.c == 0) = false := by simpa using hc.2 t ht
    rw [this, Bool.not_false, Bool.and_true, Bool.and_comm]
  · have h1 : serB ts = false := by
      cases h : serB ts
      · rfl
      · exact absurd (serB_parts h).2.2 hc
    have h2 : (ascB ts && ts.all okT) = false := by
      cases h : (ascB ts && ts.all okT)
      · rfl
      · refine absurd ?_ hc
        simp only [Bool.and_eq_true] at h
        refine ⟨pairwise_lessW fun k hk hk0 => ?_, fun t ht => ?_⟩
        · have h3 := h.1
          unfold ascB at h3
          have := List.all_eq_true.1 h3 k (List.mem_range.2 hk)
          simp only [Bool.or_eq_true, decide_eq_true_eq] at this
          rcases this with h | h
          · omega
          · exact h
        · have := List.all_eq_true.1 h.2 t ht
          unfold okT at this
          simp only [Bool.and_eq_true, Bool.not_eq_true', beq_eq_false_iff_ne] at this
          exact this.2.2
    rw [h1, h2, Bool.and_false]

set_option maxHeartbeats 1000000 in
theorem ofSeries_is (t : Tm) (b : Bool) (w : World) (hs : t.s.size ≤ maxLen) (hb : okT t = b) :
    Calls Try.prog 78 #[.agg #[.int .i64 t.c, .string t.s]] w fun e w' => e = .returned (.bool b) ∧ Below w.heap.size w w' := by
  have HS := Lib.hid hs
  clear hs
  unfold okT at hb
  cases hm : monoB t.s with
  | false =>
    rw [hm] at hb
    obtain rfl : b = false := hb.symm
    have HM := Lib.hid hm
    clear hm hb
    obtain ⟨c, s⟩ := t
    go_enter Try.func78, Try.ntmps78
    go_wp2_with fail
    refine (known4_is s false _ HS.out HM.out).mono ?_
    rintro e w1 ⟨rfl, hb1⟩
    have HB1 := Lib.hid hb1
    clear hb1
    go_wp2
    go_ret
    exact ⟨rfl, ((Below.refl _ w).alloc (Nat.le_refl _) _).trans (HB1.out.mono (by simp))⟩
  | true =>
    rw [hm, Bool.true_and] at hb
    have HM := Lib.hid hm
    clear hm
    have hbx : ∀ w1, Below (w.alloc (.cells #[.int .i64 t.c, .string t.s] TI)).heap.size (w.alloc (.cells #[.int .i64 t.c, .string t.s] TI)) w1 → w1.cell? ⟨w.heap.size, 0, none⟩ = some (.int .i64 t.c) ∧ w1.cell? ⟨w.heap.size, 1, none⟩ = some (.string t.s) := fun w1 hb => by
      constructor
      · rw [hb.cell (p := ⟨w.heap.size, 0, none⟩) (by simp)]; exact (World.cell?_alloc_at _ _ _ _ (by simp)).trans rfl
      · rw [hb.cell (p := ⟨w.heap.size, 1, none⟩) (by simp)]; exact (World.cell?_alloc_at _ _ _ _ (by simp)).trans rfl
    have HBX := Lib.hid hbx
    clear hbx
    cases hr : inR (-1000000) 1000000 t.c with
    | false =>
      rw [hr] at hb
      obtain rfl : b = false := hb.symm
      have HR := Lib.hid hr
      clear hr hb
      obtain ⟨c, s⟩ := t
      go_enter Try.func78, Try.ntmps78
      go_wp2_with fail
      refine (known4_is s true _ HS.out HM.out).mono ?_
      rintro e w1 ⟨rfl, hb1⟩
      obtain ⟨x0, x1⟩ := HBX.out w1 hb1
      have HB1 := Lib.hid hb1
      clear hb1
      go_wp2_with fail
      refine (inRange_is ⟨c, s⟩ false _ HR.out).mono ?_
      rintro e w2 ⟨rfl, hb2⟩
      have HB2 := Lib.hid (HB1.out.trans (hb2.mono HB1.out.size))
      clear hb2
      go_wp2
      go_ret
      exact ⟨rfl, ((Below.refl _ w).alloc (Nat.le_refl _) _).trans (HB2.out.mono (by simp))⟩
    | true =>
      rw [hr, Bool.true_and] at hb
      have HR := Lib.hid hr
      clear hr
      obtain ⟨c, s⟩ := t
      obtain ⟨z, hz⟩ : ∃ z, (c == 0) = z := ⟨_, rfl⟩
      have hb' : (!z) = b := by rw [← hz]; exact hb
      have HZ := Lib.hid (show ∀ W, Calls Try.prog 94 #[.agg #[.int .i64 c, .string s]] W fun e w' => e = .returned (.bool z) ∧ Grew W w' from fun W => by rw [← hz]; exact isZero_any ⟨c, s⟩ W)
      clear hz hb
      go_enter Try.func78, Try.ntmps78
      go_wp2_with fail
      refine (known4_is s true _ HS.out HM.out).mono ?_
      rintro e w1 ⟨rfl, hb1⟩
      obtain ⟨x0, x1⟩ := HBX.out w1 hb1
      have HB1 := Lib.hid hb1
      clear hb1
      go_wp2_with fail
      refine (inRange_is ⟨c, s⟩ true _ HR.out).mono ?_
      rintro e w2 ⟨rfl, hb2⟩
      have HB2 := Lib.hid (HB1.out.trans (hb2.mono HB1.out.size))
      clear hb2 x0 x1
      obtain ⟨x0, x1⟩ := HBX.out w2 HB2.out
      go_wp2_with fail
      refine (HZ.out _).mono ?_
      rintro e w3 ⟨rfl, hb3⟩
      have HB3 := Lib.hid (HB2.out.trans (hb3.below.mono HB2.out.size))
      clear hb3 x0 x1
      go_wp2
      go_ret
      exact ⟨by first | rfl | exact ret_bool hb'.symm, ((Below.refl _ w).alloc (Nat.le_refl _) _).trans (HB3.out.mono (by simp))⟩

theorem all_take {ts : List Tm} {f : Tm → Bool} {k : Nat} (hk : k < ts.length) (h : (ts.take k).all f = true) (hf : f ts[k] = true) : (ts.take (k + 1)).all f = true := by
  rw [List.take_succ_eq_append_getElem hk, List.all_append, h]
  simp [hf]

set_option maxRecDepth 100000 in
set_option maxHeartbeats 2000000 in
theorem iSeriesIn_any (a : Option Addr) (cap n : Nat) (ts : List Tm) (w : World) (hs : IsTerms w a n ts) :
    Calls Try.prog 62 #[.slice a n cap] w fun e w' => e = .returned (.bool (serB ts)) ∧ Below w.heap.size w w' := by
  have hm := hs.max
  have hE := serB_eq ts
  rw [hs.len] at hE
  have HN := Lib.hid hs.len
  have HS := Lib.hid hs
  clear hs
  unfold maxLen at hm
  by_cases h4 : n ≤ 400
  · have hgt : decide ((400 : Int) < (n : Int)) = false := decide_eq_false (by omega)
    rw [decide_eq_true h4, Bool.true_and] at hE
    have HE := Lib.hid hE
    clear hE
    have hb2 : Below w.heap.size w (w.alloc (.cells #[.slice a n cap, .func (.func 61) #[] #[]] 104)) := (Below.refl _ w).alloc (Nat.le_refl _) _
    have HS2 := Lib.hid (HS.out.below hb2)
    have hn0 : w.heap.size < (w.alloc (.cells #[.slice a n cap, .func (.func 61) #[] #[]] 104)).heap.size := by simp
    have HA := Lib.hid (ascends_any w.heap.size a cap n ts (w.alloc (.cells #[.slice a n cap, .func (.func 61) #[] #[]] 104)) HS2.out hn0 ((World.cell?_alloc_at _ _ _ _ (by simp)).trans rfl) ((World.cell?_alloc_at _ _ _ _ (by simp)).trans rfl))
    have HB2 := Lib.hid hb2
    clear hb2 hn0
    cases h3 : ascB ts with
    | false =>
      have H3 := Lib.hid h3
      clear h3
      go_enter Try.func62, Try.ntmps62
      go_wp2_with fail
      refine HA.out.mono ?_
      rintro e w3 ⟨rfl, hb3⟩
      have H3' := H3.out
      rw [H3']
      clear H3'
      have HB3 := Lib.hid (HB2.out.trans (hb3.mono HB2.out.size))
      clear hb3
      go_wp2
      go_ret
      exact ⟨ret_bool (by rw [HE.out, H3.out]; rfl), HB3.out⟩
    | true =>
      have H3 := Lib.hid h3
      clear h3
      go_enter Try.func62, Try.ntmps62
      go_wp2_with fail
      refine HA.out.mono ?_
      rintro e w3 ⟨rfl, hb3⟩
      have H3' := H3.out
      rw [H3']
      clear H3'
      have HB3 := Lib.hid (HB2.out.trans (hb3.mono HB2.out.size))
      have HS3 := Lib.hid (HS2.out.below hb3)
      clear hb3
      go_wp2_with fail
      go_loopw [17] (fun i wr => ∃ k : Nat, k ≤ n ∧ i = .int .i64 k ∧ Hid ((ts.take k).all okT = true) ∧ Below w.heap.size w wr) (fun i _ => n - (intOf i).toNat)
      case atStart => exact ⟨0, Nat.zero_le _, rfl, Lib.hid rfl, HB3.out⟩
      case round =>
        obtain ⟨k, hk, rfl, HK, hB⟩ := hrel
        by_cases hlt : k < n
        · have hkz : k < ts.length := by rw [HN.out]; exact hlt
          obtain ⟨x, rfl, hx⟩ := HS.out.at_ (by omega)
          obtain ⟨t, ht⟩ : ∃ t, ts[k] = t := ⟨_, rfl⟩
          have hc := (hx.below hB).2 k hkz
          rw [ht, addr_next] at hc
          obtain ⟨hc0, hc1⟩ := hc
          have hsm : t.s.size ≤ maxLen := by rw [← ht]; exact (HS.out.small _ (List.getElem_mem hkz)).1
          have HT := Lib.hid ht
          have HSM := Lib.hid hsm
          have hwr := Lib.hid hB
          clear hx ht hsm hB
          cases hok : okT t with
          | false =>
            have HO := Lib.hid hok
            clear hok
            go_wp2_with fail
            refine (ofSeries_is t false _ HSM.out HO.out).mono ?_
            rintro e w4 ⟨rfl, hb4⟩
            have HB4 := Lib.hid hb4
            clear hb4
            go_wp2
            go_ret
            refine ⟨ret_bool ?_, (hwr.out.alloc hwr.out.size _).trans (HB4.out.mono (by have := hwr.out.size; simp; omega))⟩
            rw [HE.out, H3.out, Bool.true_and]
            exact (List.all_eq_false.2 ⟨t, by rw [← HT.out]; exact List.getElem_mem hkz, by rw [HO.out]; exact Bool.false_ne_true⟩).symm
          | true =>
            have HO := Lib.hid hok
            clear hok
            go_wp2_with fail
            refine (ofSeries_is t true _ HSM.out HO.out).mono ?_
            rintro e w4 ⟨rfl, hb4⟩
            have HB4 := Lib.hid hb4
            clear hb4
            go_wp2
            go_roundw
            case rel => exact ⟨k + 1, by omega, by go_num, Lib.hid (all_take hkz HK.out (by rw [HT.out]; exact HO.out)), (hwr.out.alloc hwr.out.size _).trans (HB4.out.mono (by have := hwr.out.size; simp; omega))⟩
            case measure => simp [intOf]; omega
        · obtain rfl : k = n := by omega
          have hall : ts.all okT = true := by have := HK.out; rwa [List.take_of_length_le (by rw [HN.out]; exact Nat.le_refl _)] at this
          have HL := Lib.hid hall
          clear hall
          go_wp2
          go_ret
          exact ⟨ret_bool (by rw [HE.out, H3.out, HL.out]; rfl), hB⟩
  · have hgt : decide ((400 : Int) < (n : Int)) = true := decide_eq_true (by omega)
    rw [decide_eq_false h4, Bool.false_and] at hE
    have HE := Lib.hid hE
    clear hE
    go_enter Try.func62, Try.ntmps62
    go_wp2
    go_ret
    exact ⟨ret_bool HE.out.symm, (Below.refl _ w).alloc (Nat.le_refl _) _⟩
theorem iSeriesIn_is (a : Option Addr) (cap n : Nat) (ts : List Tm) (b : Bool) (w : World) (hs : IsTerms w a n ts) (hb : serB ts = b) :
    Calls Try.prog 62 #[.slice a n cap] w fun e w' => e = .returned (.bool b) ∧ Below w.heap.size w w' := by rw [← hb]; exact iSeriesIn_any a cap n ts w hs

end Go.Proofs.Ytdhmicpoigoleab

/- The law of a loop over an iterator whose variable is boxed in each round. -/

namespace Go.Proofs.Ytdhmicpoigoleab
open Go.RowKit Go.Shelf

/-- **The loop's law**, where each round's variable is boxed. -/
theorem range_law2 {α : Type} {n : Nat} {g : Operand} {ps : Array Tmp} {assign body : Code} {Q : Exit → Act → World → Prop} {a : Act} {w : World} {gf : Nat} {lb : Array Value} (hn : 10 ≤ n)
    (hg : a.eval g = .func (.func gf) #[] lb) (eg : ∀ args w, (callFunc gf args).run Try.prog w = .ok (.enter gf args) w)
    {encs : α → Array Value} (hps : ∀ x, (encs x).size = ps.size) (Kp : Nat → World → World → Prop) (hKt : ∀ {N X Y Z}, Kp N X Y → Kp N Y Z → Kp N X Z)
    (hKp : ∀ N W l o o', l < N → w.heap.size ≤ l → W.heap[l]? = some o → o.isCells = false → o.isWalk = false → Kp N W (W.putObj l o')) (hKm : ∀ {X Y}, Kp w.heap.size X Y → Kp (w.heap.size + 2) X Y)
    (ob : α → Obj) (hKa : ∀ N W o, w.heap.size ≤ W.heap.size → Kp N W (W.alloc o))
    {xs : List α}
    (hseq : ∀ (l : Nat) (J : List α → World → Prop) (V : World), Below w.heap.size w V → w.heap.size < V.heap.size → OwnFrom V.heap.size J →
      (∀ pre x W1, J pre W1 → pre ++ [x] <+: xs → YieldAt Fence.wide (n - 1 - 1) Try.prog l (encs x) W1 fun e W' => e = .returned (.bool true) ∧ J (pre ++ [x]) W' ∧ Kp V.heap.size W1 W') → J [] V →
      CallsIn Fence.wide (n - 1) Try.prog gf (#[.func (.yield l) #[] #[]] ++ lb) V fun e W' => (∃ v, e = .returned v) ∧ J xs W')
    (I : List α → World → Prop) (hI : OwnFrom w.heap.size I) (h0 : I [] w) (a₁ : α → Nat → Act)
    (hassign : ∀ (l : Nat) (x : α) (W : World) (K : Act → World → Prop), K (a₁ x W.heap.size) (W.alloc (ob x)) →
      assign.wpIn (Fence.wide.inRound l) (n - 1 - 1) Try.prog (Exit.then K (fun _ _ _ => False)) { tmps := (ps.zip (encs x)).foldl (fun t (q, v) => t.setIfInBounds q v) a.tmps, defers := [] } W)
    (hbody : ∀ (l : Nat) (pre : List α) (x : α) (b : Nat) (W : World), I pre W → pre ++ [x] <+: xs → W.heap.size = b + 1 → W.heap[b]? = some (ob x) → w.heap.size + 2 ≤ b →
      body.wpIn (Fence.wide.inRound l) (n - 1 - 1) Try.prog (goesOn w.heap.size Kp I (pre ++ [x]) W) (a₁ x b) W)
    (hdone : ∀ (D : Nat) (W : World), w.heap.size ≤ D → I xs W → W.heap[D]? = some (.deferred (some [])) → Q .normal { a with defers := { target := .collected D, args := #[] } :: a.defers } W) :
    (Code.rangeFunc g ps assign body).wpIn Fence.wide n Try.prog Q a w := by
  refine wpIn_rangeFunc fun fn hfn => ?_
  have lp : ∃ lp : LoopState → Loop, lp = fun st => { state := st, pending := none, fn, tmps := a.tmps, params := ps, assign, body, defers := w.heap.size } := ⟨_, rfl⟩
  obtain ⟨lp, hlp⟩ := lp
  have e1 := run_enterLoop_outer (P := Try.prog) (w := w) fn a.tmps ps assign body
  rw [show ({ state := .ready, pending := none, fn, tmps := a.tmps, params := ps, assign, body, defers := w.heap.size } : Loop) = lp .ready by rw [hlp]] at e1
  have kD : ((w.alloc (.deferred (some []))).alloc (.loop (lp .ready))).heap[w.heap.size]? = some (.deferred (some [])) := (Below.heap_alloc _ _ _ (by simp)).trans (World.alloc_heap_new w _)
  have kL : ((w.alloc (.deferred (some []))).alloc (.loop (lp .ready))).heap[w.heap.size + 1]? = some (.loop (lp .ready)) := by
    have := World.alloc_heap_new (w.alloc (.deferred (some []))) (.loop (lp .ready)); rwa [World.size_alloc] at this
  have i0 := hI.alloc (Obj.loop (lp .ready)) (hI.alloc (Obj.deferred (some [])) h0)
  have hs : ((w.alloc (.deferred (some []))).alloc (.loop (lp .ready))).heap.size = w.heap.size + 2 := by simp
  have hb : Below w.heap.size w ((w.alloc (.deferred (some []))).alloc (.loop (lp .ready))) := ((Below.refl _ w).alloc (Nat.le_refl _) _).alloc (by simp) _
  generalize ((w.alloc (.deferred (some []))).alloc (.loop (lp .ready))) = V at e1 kD kL i0 hs hb
  refine ⟨w.heap.size + 1, _, V, { target := .fn (.func gf) lb, args := #[.func (.yield (w.heap.size + 1)) #[] #[]] }, V, gf, #[.func (.yield (w.heap.size + 1)) #[] #[]] ++ lb, V, e1, ?_, fun f' hf' => ?_, ?_, fun _ => by omega, ?_⟩
  · simp only [resolve, hg]
    simp [go_sem]
  · trivial
  · simp [invoke, go_sem, eg]
  · refine (hseq (w.heap.size + 1) (fun pre W => I pre W ∧ W.heap[w.heap.size]? = some (.deferred (some [])) ∧ W.heap[w.heap.size + 1]? = some (.loop (lp .ready))) V hb (by omega) ?_ ?_ ⟨i0, kD, kL⟩).mono ?_
    · rintro s X Y row ⟨h1, h2, h3⟩ hgr hr
      have far : ∀ k, k < V.heap.size → k < X.heap.size → Y.heap[k]? = X.heap[k]? := fun k hk hX => hgr.block k hX (fun e => by have := (hr k e.symm).1; omega)
      exact ⟨hI s X Y row h1 hgr (fun r e => by obtain ⟨q1, q2⟩ := hr r e; exact ⟨by omega, q2⟩), (far _ (by omega) (Array.getElem?_eq_some_iff.1 h2).1).trans h2, (far _ (by omega) (Array.getElem?_eq_some_iff.1 h3).1).trans h3⟩
    · rintro pre x W ⟨h1, h2, h3⟩ hpre
      have hlt : w.heap.size + 1 < W.heap.size := (Array.getElem?_eq_some_iff.1 h3).1
      have hy := run_yield (P := Try.prog) (args := encs x) h3 (by rw [hlp]; exact hps x)
      rw [hlp] at hy
      obtain ⟨U, hU⟩ : ∃ U, W.alloc (ob x) = U := ⟨_, rfl⟩
      have u3 : U.heap[w.heap.size + 1]? = some (.loop (lp .ready)) := by rw [← hU]; exact (Below.heap_alloc _ _ _ hlt).trans h3
      have u2 : U.heap[w.heap.size]? = some (.deferred (some [])) := by rw [← hU]; exact (Below.heap_alloc _ _ _ (by omega)).trans h2
      have u1 : I pre U := by rw [← hU]; exact hI.alloc (ob x) h1
      have uk : Kp (w.heap.size + 2) W U := by rw [← hU]; exact hKa _ _ _ (by omega)
      have un : U.heap[W.heap.size]? = some (ob x) := by rw [← hU]; exact World.alloc_heap_new W _
      have us : U.heap.size = W.heap.size + 1 := by rw [← hU]; simp
      refine ⟨fn, _, assign, body, hy, roundIn_of_wpIn hfn (hassign _ x W _ ?_)⟩
      rw [hU]
      refine ⟨_, run_beginRound u3 (by rw [hlp]), ?_⟩
      have hltU : w.heap.size + 1 < U.heap.size := by omega
      have b3 : (U.putObj (w.heap.size + 1) (.loop { lp .ready with state := .busy })).heap[w.heap.size + 1]? = some (.loop { lp .ready with state := .busy }) := World.putObj_heap_same hltU
      have b2 : (U.putObj (w.heap.size + 1) (.loop { lp .ready with state := .busy })).heap[w.heap.size]? = some (.deferred (some [])) := (World.putObj_heap_other (by omega)).trans u2
      have b1 := hI.putObj (.loop { lp .ready with state := .busy }) u1 (by omega) u3 rfl
      have bn : (U.putObj (w.heap.size + 1) (.loop { lp .ready with state := .busy })).heap[W.heap.size]? = some (ob x) := (World.putObj_heap_other (by omega)).trans un
      have bs : (U.putObj (w.heap.size + 1) (.loop { lp .ready with state := .busy })).heap.size = W.heap.size + 1 := by rw [World.putObj_size]; exact us
      have bk : Kp (w.heap.size + 2) W (U.putObj (w.heap.size + 1) (.loop { lp .ready with state := .busy })) := hKt uk (hKp _ U _ _ _ (by omega) (by omega) u3 rfl rfl)
      have hWs : w.heap.size + 2 ≤ W.heap.size := by omega
      generalize (U.putObj (w.heap.size + 1) (.loop { lp .ready with state := .busy })) = X at b1 b2 b3 bk bn bs
      refine wpIn_mono (hbody _ pre x W.heap.size X b1 hpre bs bn hWs) ?_
      intro e a3 Y hgo
      cases e with
      | normal => ?_
      | _ => exact hgo.elim
      obtain ⟨k3, kp, hi⟩ := hgo
      have c3 := k3.same _ _ (by omega) b3 rfl
      have c2 := k3.same _ _ (Nat.le_refl _) b2 rfl
      have he := run_endRound (P := Try.prog) none c3
      refine ⟨_, _, he, rfl, ⟨hI.putObj _ hi (by omega) c3 rfl, (World.putObj_heap_other (by omega)).trans c2, ?_⟩, ?_⟩
      · rw [hlp]
        rw [hlp] at c3
        exact World.putObj_heap_same (Array.getElem?_eq_some_iff.1 c3).1
      · rw [hs]
        exact hKt (hKt bk (hKm kp)) (hKp _ Y _ _ _ (by omega) (by omega) c3 rfl rfl)
    · rintro e W ⟨⟨v, rfl⟩, h1, h2, h3⟩
      have he := run_endLoop (P := Try.prog) h3 (by rw [hlp]; simp)
      rw [show (lp .ready).pending = none by rw [hlp]] at he
      exact ⟨none, _, he, hdone _ _ (Nat.le_refl _) (hI.putObj _ h1 (by omega) h3 rfl) ((World.putObj_heap_other (by omega)).trans h2)⟩

end Go.Proofs.Ytdhmicpoigoleab

/- The contracts of slices.Values, slices.AppendSeq and slices.Collect at terms. -/

namespace Go.Proofs.Ytdhmicpoigoleab
open Go.RowKit Go.Shelf

attribute [local go_sem] Oper.semAt_some

abbrev encM (x : Tm) : Array Value := #[.agg #[.int .i64 x.c, .string x.s]]
abbrev ST : TypeId := 40

/-- The box B holds a slice that owns the terms. -/
def HoldT (base B : Nat) (pre : List Tm) (W : World) : Prop :=
  ∃ v, Boxed W B ST v ∧ W.ownsRow base TI 2 v pre.length (termsV pre) ∧ True
theorem HoldT.own (base B : Nat) : Own (HoldT base B) := holdsRow_own base B ST TI 2 (fun pre : List Tm => pre.length) (fun pre => termsV pre) (fun _ _ => True)

end Go.Proofs.Ytdhmicpoigoleab

/- The library's sort, at terms and 'compareTerms'. -/

namespace Go.Proofs.Ytdhmicpoigoleab
open Go.Shelf Go.RowKit Go.Lib Go.Sort

def sortT_ren : Go.Shelf.Ren := ⟨fun | 6 => 60 | 15 => 73 | 14 => 72 | 28 => 89 | 29 => 90 | 20 => 81 | 21 => 82 | 22 => 83 | 23 => 84 | 24 => 85 | 25 => 86 | 26 => 87 | 27 => 88 | 46 => 95 | 47 => 96 | 48 => 97 | 49 => 98 | 50 => 99 | 57 => 101 | n => n, fun | 22 => 40 | 24 => 44 | 25 => 89 | 3 => 3 | 39 => 99 | 0 => 0 | 53 => 114 | 55 => 116 | 4 => 4 | 46 => 108 | 45 => 107 | 50 => 27 | 5 => 5 | 9 => 9 | 66 => 120 | 70 => 124 | 76 => 126 | 77 => 127 | n => n, fun n => n⟩
theorem sortT : SlLaysF0.n6 Try.prog sortT_ren := {
  mixed := by kernel_rfl
  f6 := Exists.intro "slices.SortFunc[[]loop.example/foxcalculus/impl.Term,loop.example/foxcalculus/impl.Term]" ⟨of_decide_eq_true (by kernel_rfl), Try.func60.trans (congrArg some (by kernel_rfl))⟩
  f14 := Exists.intro "slices.pdqsortCmpFunc[loop.example/foxcalculus/impl.Term]" ⟨of_decide_eq_true (by kernel_rfl), Try.func72.trans (congrArg some (by kernel_rfl))⟩
  f15 := Try.func73.trans (congrArg some (by kernel_rfl))
  f20 := Exists.intro "slices.insertionSortCmpFunc[loop.example/foxcalculus/impl.Term]" ⟨of_decide_eq_true (by kernel_rfl), Try.func81.trans (congrArg some (by kernel_rfl))⟩
  f21 := Exists.intro "slices.heapSortCmpFunc[loop.example/foxcalculus/impl.Term]" ⟨of_decide_eq_true (by kernel_rfl), Try.func82.trans (congrArg some (by kernel_rfl))⟩
  f22 := Exists.intro "slices.breakPatternsCmpFunc[loop.example/foxcalculus/impl.Term]" ⟨of_decide_eq_true (by kernel_rfl), Try.func83.trans (congrArg some (by kernel_rfl))⟩
  f23 := Exists.intro "slices.choosePivotCmpFunc[loop.example/foxcalculus/impl.Term]" ⟨of_decide_eq_true (by kernel_rfl), Try.func84.trans (congrArg some (by kernel_rfl))⟩
  f24 := Exists.intro "slices.reverseRangeCmpFunc[loop.example/foxcalculus/impl.Term]" ⟨of_decide_eq_true (by kernel_rfl), Try.func85.trans (congrArg some (by kernel_rfl))⟩
  f25 := Exists.intro "slices.partialInsertionSortCmpFunc[loop.example/foxcalculus/impl.Term]" ⟨of_decide_eq_true (by kernel_rfl), Try.func86.trans (congrArg some (by kernel_rfl))⟩
  f26 := Exists.intro "slices.partitionEqualCmpFunc[loop.example/foxcalculus/impl.Term]" ⟨of_decide_eq_true (by kernel_rfl), Try.func87.trans (congrArg some (by kernel_rfl))⟩
  f27 := Exists.intro "slices.partitionCmpFunc[loop.example/foxcalculus/impl.Term]" ⟨of_decide_eq_true (by kernel_rfl), Try.func88.trans (congrArg some (by kernel_rfl))⟩
  f28 := Try.func89.trans (congrArg some (by kernel_rfl))
  f29 := Try.func90.trans (congrArg some (by kernel_rfl))
  f46 := Exists.intro "slices.siftDownCmpFunc[loop.example/foxcalculus/impl.Term]" ⟨of_decide_eq_true (by kernel_rfl), Try.func95.trans (congrArg some (by kernel_rfl))⟩
  f47 := Try.func96.trans (congrArg some (by kernel_rfl))
  f48 := Try.func97.trans (congrArg some (by kernel_rfl))
  f49 := Exists.intro "slices.medianAdjacentCmpFunc[loop.example/foxcalculus/impl.Term]" ⟨of_decide_eq_true (by kernel_rfl), Try.func98.trans (congrArg some (by kernel_rfl))⟩
  f50 := Exists.intro "slices.medianCmpFunc[loop.example/foxcalculus/impl.Term]" ⟨of_decide_eq_true (by kernel_rfl), Try.func99.trans (congrArg some (by kernel_rfl))⟩
  f57 := Exists.intro "slices.order2CmpFunc[loop.example/foxcalculus/impl.Term]" ⟨of_decide_eq_true (by kernel_rfl), Try.func101.trans (congrArg some (by kernel_rfl))⟩
  t0 := Try.underlying0
  a0 := Try.isAgg0
  z0 := Try.sizeOf0
  v0 := Try.zeroValue0
  t3 := Try.underlying3
  a3 := Try.isAgg3
  z3 := Try.sizeOf3
  v3 := Try.zeroValue3
  t4 := Try.underlying4
  a4 := Try.isAgg4
  z4 := Try.sizeOf4
  v4 := Try.zeroValue4
  t5 := Try.underlying5
  a5 := Try.isAgg5
  z5 := Try.sizeOf5
  v5 := Try.zeroValue5
  t9 := Try.underlying9
  a9 := Try.isAgg9
  z9 := Try.sizeOf9
  v9 := Try.zeroValue9
  t22 := Try.underlying40
  a22 := Try.isAgg40
  z22 := Try.sizeOf40
  v22 := Try.zeroValue40
  t25 := Try.underlying89
  a25 := Try.isAgg89
  z25 := Try.sizeOf89
  v25 := Try.zeroValue89
  t39 := Try.underlying99
  a39 := Try.isAgg99
  z39 := Try.sizeOf99
  v39 := Try.zeroValue99
  t45 := Try.underlying107
  a45 := Try.isAgg107
  z45 := Try.sizeOf107
  v45 := Try.zeroValue107
  t46 := Try.underlying108
  a46 := Try.isAgg108
  z46 := Try.sizeOf108
  v46 := Try.zeroValue108
  t50 := Try.underlying27
  a50 := Try.isAgg27
  z50 := Try.sizeOf27
  v50 := Try.zeroValue27
  t53 := Try.underlying114
  a53 := Try.isAgg114
  z53 := Try.sizeOf114
  v53 := Try.zeroValue114
  t55 := Try.underlying116
  a55 := Try.isAgg116
  z55 := Try.sizeOf116
  v55 := Try.zeroValue116
  t66 := Try.underlying120
  a66 := Try.isAgg120
  z66 := Try.sizeOf120
  v66 := Try.zeroValue120
  t70 := Try.underlying124
  a70 := Try.isAgg124
  z70 := Try.sizeOf124
  v70 := Try.zeroValue124
  t76 := Try.underlying126
  a76 := Try.isAgg126
  z76 := Try.sizeOf126
  v76 := Try.zeroValue126
  t77 := Try.underlying127
  a77 := Try.isAgg127
  z77 := Try.sizeOf127
  v77 := Try.zeroValue127 }

def encT (t : Tm) : List Value := [.int .i64 t.c, .string t.s]
def cmpT (a b : Tm) : Int := cmpW a.s b.s
theorem ltOf_cmpT (a b : Tm) : ltOf cmpT a b = lessW a.s b.s := by rw [lessW_cmp]; rfl
theorem swoT : SWO (ltOf cmpT) where
  irrefl x := by rw [ltOf_cmpT]; exact lessW_irrefl _
  trans x y z h1 h2 := by rw [ltOf_cmpT] at *; exact lessW_trans h1 h2
  ntrans x y z h1 h2 := by
    rw [ltOf_cmpT] at *
    cases h3 : lessW x.s z.s with
    | false => rfl
    | true =>
      cases h4 : lessW y.s x.s with
      | true => have := lessW_trans h4 h3; rw [h2] at this; cases this
      | false => have := lessW_tri h1 h4; rw [this, h2] at h3; cases h3

theorem cmpLaysT (blk off size : Nat) (w : World) : CmpLays Try.prog 61 #[] encT 2 cmpT blk off size w :=
  fun _ _ _ _ x y => compareTerms_any x y _

theorem sortTerms (blk off cap : Nat) (d : Array Tm) (w : World) (hH : HoldsK encT 2 w blk off d) (hblk : blk < w.heap.size) (hsz : d.size < 4611686018427387904) :
    Calls Try.prog 60 #[.slice (some ⟨blk, off, none⟩) d.size cap, .func (.func 61) #[] #[]] w fun e w' => e = .returned (.tuple #[]) ∧ ∃ d' n os, PermIn 0 d.size d d' ∧ SortedIn (ltOf cmpT) 0 d.size d' ∧ w' = sortWorldK encT 2 w blk off n d' os :=
  AnyQ.slices_SortFunc sortT 2 Try.isAgg44 Try.sizeOf44 encT (fun _ => rfl) (fun x v hv => by simp [encT] at hv; rcases hv with rfl | rfl <;> rfl) cmpT swoT 61 #[] blk off cap d w
    (enters_of Try.func61 (by kernel_rfl) rfl) (cmpLaysT blk off d.size w) hH hblk hsz

end Go.Proofs.Ytdhmicpoigoleab

/- The contract of slices.SortedFunc at terms. -/

namespace Go.Proofs.Ytdhmicpoigoleab
open Go.RowKit Go.Shelf Go.Sort

theorem flat_terms (d : Array Tm) : flatK encT 2 d = (termsV d.toList).toArray := by
  apply Array.toList_inj.1
  apply List.ext_getElem
  · simp [flatK, termsV_len]
  · intro j h1 h2
    have hj : j < d.size * 2 := by simpa [flatK] using h1
    have hq : j / 2 < d.toList.length := by simp; omega
    have hg := termsV_get d.toList (j / 2) hq
    have e1 : (flatK encT 2 d).toList[j] = (encT d[j / 2]!)[j % 2]! := by simp [flatK]
    have e0 : d[j / 2]! = d.toList[j / 2] := by rw [getElem!_pos d (j / 2) (by simpa using hq)]; simp
    rw [e1, e0]
    rcases Nat.mod_two_eq_zero_or_one j with h | h
    · rw [h]
      have e2 : j / 2 * 2 = j := by omega
      rw [e2] at hg
      exact ((List.getElem?_eq_some_iff.1 hg.1).2).symm
    · rw [h]
      have e2 : j / 2 * 2 + 1 = j := by omega
      rw [e2] at hg
      exact ((List.getElem?_eq_some_iff.1 hg.2).2).symm

theorem holdsK_of_owns {w : World} {base g cap n : Nat} {ts : List Tm} (hn : ts.length = n) (h : w.ownsRow base TI 2 (.slice (some ⟨g, 0, none⟩) n cap) n (termsV ts)) : HoldsK encT 2 w g 0 ts.toArray := by
  unfold HoldsK
  rw [flat_terms]
  intro j hj
  have hj2 : j < (termsV ts).length := by simpa using hj
  have hj3 : j < n * 2 := by rw [termsV_len] at hj2; omega
  refine ⟨?_, by rw [Nat.zero_add]; exact h.frozenAt j⟩
  rw [Nat.zero_add, h.cellAt j hj3, List.getElem?_eq_getElem hj2]
  simp only [id]
  rw [getElem!_pos _ j (by simpa using hj2)]
  simp

theorem owns_put {w : World} {base g cap n m : Nat} {os : Array Obj} {F : List Value} {xs : List Value} (hF : F.length = n * 2) (h : w.ownsRow base TI 2 (.slice (some ⟨g, 0, none⟩) n cap) n xs) :
    (grow (putRow id (Sort.ahead w m) g 0 F.toArray) os).ownsRow base TI 2 (.slice (some ⟨g, 0, none⟩) n cap) n F ∧ w.grownBy (grow (putRow id (Sort.ahead w m) g 0 F.toArray) os) (some g) := by
  rcases h.2 with ⟨h, _⟩ | ⟨g1, cap1, cur, h1, hb, hg, hn, hc, hs, ht⟩
  · cases h
  · cases h1
    have hlt : g < w.heap.size := (Array.getElem?_eq_some_iff.1 hg).1
    have hh : (grow (putRow id (Sort.ahead w m) g 0 F.toArray) os).heap[g]? = some (.cells (putCells id 0 F.toArray cur) TI (0, 0)) := by
      rw [heap_grow_old _ _ (by simpa using hlt)]
      simp [putRow, mapBlock, Sort.ahead, Array.getElem?_modify, hg, onCells]
    refine ⟨⟨hF, .inr ⟨g, cap, _, rfl, hb, hh, hn, hc, by simp [putCells, hs], ?_⟩⟩, ⟨rfl, rfl, rfl, by simp, fun k hk hne => ?_⟩⟩
    · have hle : F.length ≤ cur.size := by rw [hs, hF]; omega
      rw [← hF]
      apply List.ext_getElem?
      intro j
      by_cases hj : j < F.length
      · rw [List.getElem?_take_of_lt hj, Array.getElem?_toList]
        simp [putCells, hj, show j < cur.size by omega]
      · rw [List.getElem?_take_eq_none (by omega), List.getElem?_eq_none (by omega)]
    · rw [heap_grow_old _ _ (by simpa using hk)]
      have : g ≠ k := fun e => hne (by rw [e])
      simp [putRow, mapBlock, Sort.ahead, Array.getElem?_modify, this]

theorem perm_of {ts : List Tm} {d : Array Tm} (h : PermIn 0 ts.toArray.size ts.toArray d) : d.toList.Perm ts := by
  obtain ⟨h1, _, h3⟩ := h
  have e1 : d.extract 0 ts.toArray.size = d := by rw [← h1]; simp
  have e2 : ts.toArray.extract 0 ts.toArray.size = ts.toArray := by simp
  rw [e1, e2] at h3
  simpa using h3
theorem sorted_of {d : Array Tm} {n : Nat} (hn : d.size = n) (h : SortedIn (ltOf cmpT) 0 n d) : d.toList.Pairwise (fun a b => lessW b.s a.s = false) := by
  rw [List.pairwise_iff_getElem]
  intro i j hi hj hij
  have := h i j (Nat.zero_le _) hij (by rw [← hn]; simpa using hj)
  rw [ltOf_cmpT, getElem!_pos d j (by simpa using hj), getElem!_pos d i (by simpa using hi)] at this
  simpa using this

/-- The library's sort on a row of the call's own. -/
theorem sortOwn_any (base : Nat) (v : Value) (n : Nat) (ts : List Tm) (w : World) (hn : ts.length = n) (hm : n ≤ 1000000) (hbase : base ≤ w.heap.size) (h : w.ownsRow base TI 2 v n (termsV ts)) :
    Calls Try.prog 60 #[v, .func (.func 61) #[] #[]] w fun e w' =>
      e = .returned (.tuple #[]) ∧ (∃ ss : List Tm, ss.Perm ts ∧ ss.Pairwise (fun a b => lessW b.s a.s = false) ∧ w'.ownsRow base TI 2 v n (termsV ss)) ∧ Below base w w' := by
  by_cases h0 : n = 0
  · subst h0
    obtain rfl := List.length_eq_zero_iff.1 hn
    obtain ⟨p, cap, rfl⟩ : ∃ p cap, v = .slice p 0 cap := by
      rcases h.2 with ⟨rfl, _⟩ | ⟨g, cap, cur, rfl, _⟩
      · exact ⟨_, _, rfl⟩
      · exact ⟨_, _, rfl⟩
    refine (AnyF.slices_SortFunc_none (ρ := sortT_ren) { sortT with } p cap (.func (.func 61) #[] #[]) w).mono ?_
    rintro e w' ⟨rfl, rfl⟩
    exact ⟨rfl, ⟨[], List.Perm.refl _, List.Pairwise.nil, h⟩, Below.refl _ _⟩
  · rcases h.2 with ⟨rfl, h0'⟩ | ⟨g, cap, cur, rfl, hb, hg, hnc, hcm, _⟩
    · exact absurd h0' h0
    have hs := sortTerms g 0 cap ts.toArray w (holdsK_of_owns hn h) (Array.getElem?_eq_some_iff.1 hg).1 (by simp; omega)
    rw [show ts.toArray.size = n by simpa using hn] at hs
    refine hs.mono ?_
    rintro e w' ⟨rfl, d', m, os, hp, hso, rfl⟩
    have hsz : d'.size = n := by rw [hp.1]; simpa using hn
    have hp' : PermIn 0 ts.toArray.size ts.toArray d' := by rw [show ts.toArray.size = n by simpa using hn]; exact hp
    have ho := owns_put (m := m) (os := os) (F := termsV d'.toList) (by rw [termsV_len]; simp [hsz]) h
    have e1 : sortWorldK encT 2 w g 0 m d' os = grow (putRow id (Sort.ahead w m) g 0 (termsV d'.toList).toArray) os := by
      unfold sortWorldK putRowK; rw [flat_terms]
    rw [e1]
    exact ⟨rfl, ⟨d'.toList, perm_of hp', sorted_of hsz hso, ho.1⟩, (Below.refl _ _).grown ho.2 hbase (fun j ej => by cases ej; exact hb)⟩

end Go.Proofs.Ytdhmicpoigoleab

/- The contracts of the program's 'joinTerms' and 'push'. -/

namespace Go.Proofs.Ytdhmicpoigoleab
open Go.RowKit Go.Shelf

/-- All below B as it was, but for the block bs. -/
structure BelowBut (bs B : Nat) (w w' : World) : Prop where
  os : w'.os = w.os
  tape : w'.tape = w.tape
  output : w'.output = w.output
  size : w.heap.size ≤ w'.heap.size
  block : ∀ k, k < B → k ≠ bs → w'.heap[k]? = w.heap[k]?
theorem BelowBut.refl (bs B : Nat) (w : World) : BelowBut bs B w w := ⟨rfl, rfl, rfl, Nat.le_refl _, fun _ _ _ => rfl⟩
theorem BelowBut.trans {bs B : Nat} {a b c : World} (h : BelowBut bs B a b) (k : BelowBut bs B b c) : BelowBut bs B a c :=
  ⟨k.os.trans h.os, k.tape.trans h.tape, k.output.trans h.output, Nat.le_trans h.size k.size, fun i hi hb => (k.block i hi hb).trans (h.block i hi hb)⟩
theorem BelowBut.of {B : Nat} {w w' : World} (bs : Nat) (h : Below B w w') : BelowBut bs B w w' := ⟨h.os, h.tape, h.output, h.size, fun k hk _ => h.block k hk⟩

abbrev SrT : TypeId := 104
abbrev CF : Value := .func (.func 61) #[] #[]
/-- The struct at bs holds the terms. -/
def HoldS (base bs : Nat) (acc : List Tm) (W : World) : Prop :=
  ∃ v, W.heap[bs]? = some (.cells #[v, CF] SrT (0, 0)) ∧ W.ownsRow base TI 2 v acc.length (termsV acc)

/-- What the calls of push share. -/
theorem push_cells {base bs : Nat} {acc : List Tm} {w : World} (h : HoldS base bs acc w) (hbs : bs < base) (hbase : base ≤ w.heap.size) (x : Tm) :
    ∃ v, (w.alloc (.cells #[.int .i64 x.c, .string x.s] TI)).cell? ⟨bs, 0, none⟩ = some v ∧ (w.alloc (.cells #[.int .i64 x.c, .string x.s] TI)).cell? ⟨bs, 1, none⟩ = some CF ∧
      (w.alloc (.cells #[.int .i64 x.c, .string x.s] TI)).cell? ⟨w.heap.size, 0, none⟩ = some (.int .i64 x.c) ∧ (w.alloc (.cells #[.int .i64 x.c, .string x.s] TI)).cell? ⟨w.heap.size, 1, none⟩ = some (.string x.s) ∧
      (w.alloc (.cells #[.int .i64 x.c, .string x.s] TI)).ownsRow base TI 2 v acc.length (termsV acc) ∧ (w.alloc (.cells #[.int .i64 x.c, .string x.s] TI)).heap[bs]? = some (.cells #[v, CF] SrT (0, 0)) ∧ ∀ j, v.ownBlock = some j → base ≤ j ∧ j < w.heap.size := by
  obtain ⟨v, hbx, hrow⟩ := h
  have hbV : Below w.heap.size w (w.alloc (.cells #[.int .i64 x.c, .string x.s] TI)) := (Below.refl _ _).alloc (Nat.le_refl _) _
  have hbxV := (hbV.block bs (by omega)).trans hbx
  have hxV : (w.alloc (.cells #[.int .i64 x.c, .string x.s] TI)).heap[w.heap.size]? = some (.cells #[.int .i64 x.c, .string x.s] TI (0, 0)) := World.alloc_heap_new _ _
  exact ⟨v, by simp [World.cell?, hbxV], by simp [World.cell?, hbxV], (by unfold World.cell?; rw [hxV]; rfl), (by unfold World.cell?; rw [hxV]; rfl), hrow.alloc _, hbxV, fun j ej => by
    rcases hrow.2 with ⟨rfl, _⟩ | ⟨g1, cap1, cur1, rfl, hg1, hg2, _⟩
    · cases ej
    · simp [Value.ownBlock] at ej
      subst ej
      exact ⟨hg1, (Array.getElem?_eq_some_iff.1 hg2).1⟩⟩

theorem HoldS.set {bs : Nat} {w : World} {v : Value} (h : w.heap[bs]? = some (.cells #[v, CF] SrT (0, 0))) (u : Value) : (w.setCell ⟨bs, 0, none⟩ u).heap[bs]? = some (.cells #[u, CF] SrT (0, 0)) := by
  simp [World.setCell, Array.getElem?_modify, h]
theorem bs_frozen {bs : Nat} {w : World} {v : Value} (h : w.heap[bs]? = some (.cells #[v, CF] SrT (0, 0))) : w.frozen? ⟨bs, 0, none⟩ = false := by
  simp [World.frozen?, h]
theorem frozen_past {w : World} {a : Addr} (h : w.frozen? a = false) (hb : a.block < w.heap.size) (o : Obj) : (w.alloc o).frozen? a = false :=
  (World.frozen?_of_block (w := w) (Below.heap_alloc w o a.block hb)).trans h
theorem ownLow {W : World} {base : Nat} {e : TypeId} {size : Nat} {v : Value} {n : Nat} {xs : List Value} (h : W.ownsRow base e size v n xs) : ∀ j, v.ownBlock = some j → base ≤ j := by
  intro j ej
  rcases h.2 with ⟨rfl, _⟩ | ⟨g1, cap1, cur1, rfl, hg1, _⟩
  · cases ej
  · simp [Value.ownBlock] at ej
    subst ej
    exact hg1
/-- What an append stored into the struct leaves. -/
theorem push_done {base bs m : Nat} {W w1 : World} {v v' : Value} {o : Obj} {us : List Tm} {xs zs : List Value} {n : Nat} (hbx : W.heap[bs]? = some (.cells #[v, CF] SrT (0, 0))) (hbs : bs < base) (hbase : base ≤ W.heap.size)
    (hrow : W.ownsRow base TI 2 v n zs) (hown1 : w1.ownsRow base TI 2 v' m xs) (hm : m = us.length) (hx : xs = termsV us) (hgrow : (W.drew.alloc o).grownBy w1 v.ownBlock) :
    HoldS base bs us (w1.setCell ⟨bs, 0, none⟩ v') ∧ BelowBut bs base W (w1.setCell ⟨bs, 0, none⟩ v') := by
  have hl := ownLow hrow
  have hB : Below base W w1 := ((Below.refl base W).drew.alloc (by show base ≤ W.heap.size; exact hbase) _).grown hgrow (by simp; show base ≤ W.heap.size + 1; omega) hl
  have h1 : w1.heap[bs]? = some (.cells #[v, CF] SrT (0, 0)) := (hB.block bs hbs).trans hbx
  refine ⟨⟨v', HoldS.set h1 v', ?_⟩, (BelowBut.of bs hB).trans ⟨rfl, rfl, rfl, (KeepsWalks.setCell w1 _ _).size, fun k _ hk => Below.heap_setCell _ _ _ k hk⟩⟩
  rw [← hm, ← hx]
  exact ownsRow_setCell_below hown1 hbs _

theorem add_off (g n : Nat) : (⟨g, 0, none⟩ : Addr).add n = ⟨g, n, none⟩ := by
  unfold Addr.add
  by_cases h : n = 0
  · subst h; simp
  · simp [h]
theorem compareBytes_zero : ∀ a b : List UInt8, Lib.compareBytes a b = 0 → a = b
  | [], [], _ => rfl
  | [], _ :: _, h => by simp [Lib.compareBytes] at h
  | _ :: _, [], h => by simp [Lib.compareBytes] at h
  | a :: ar, b :: bs, h => by
    unfold Lib.compareBytes at h
    by_cases h1 : a < b
    · rw [if_pos h1] at h; cases h
    · by_cases h2 : b < a
      · rw [if_neg h1, if_pos h2] at h; cases h
      · rw [if_neg h1, if_neg h2] at h
        rw [compareBytes_zero ar bs h]
        have : a = b := by
          apply UInt8.toNat_inj.1
          rw [UInt8.lt_iff_toNat_lt] at h1 h2
          omega
        rw [this]
theorem cmpW_zero {a b : ByteArray} (h : cmpW a b = 0) : a = b := by
  unfold cmpW orInt at h
  split at h
  · exact ByteArray.ext (Array.ext' (compareBytes_zero _ _ h))
  · rename_i h0
    exact absurd h (by first | exact h0 | simpa using h0)
theorem compareBytes_self : ∀ a : List UInt8, Lib.compareBytes a a = 0
  | [] => rfl
  | a :: ar => by
    unfold Lib.compareBytes
    rw [if_neg (by rw [UInt8.lt_iff_toNat_lt]; omega), if_neg (by rw [UInt8.lt_iff_toNat_lt]; omega)]
    exact compareBytes_self ar
theorem cmpW_self (a : ByteArray) : cmpW a a = 0 := by
  unfold cmpW orInt Lib.compareInt
  simp [compareBytes_self]

end Go.Proofs.Ytdhmicpoigoleab

/- The contract of the program's 'push'. -/

namespace Go.Proofs.Ytdhmicpoigoleab
open Go.RowKit Go.Shelf

theorem set_last (pre : List Tm) (l : Tm) (c : Int) (k : Nat) (hk : pre.length = k) :
    ((termsV (pre ++ [l])).set (k * 2) (.int .i64 c)).set (k * 2 + 1) (.string l.s) = termsV (pre ++ [⟨c, l.s⟩]) := by
  have hl := termsV_len pre
  rw [hk] at hl
  rw [termsV_append, termsV_append, List.set_append_right _ _ (by omega), List.set_append_right _ _ (by omega), hl, Nat.sub_self, show k * 2 + 1 - k * 2 = 1 by omega]
  rfl
/-- What the join that is stored leaves. -/
theorem join_done {base bs g k cap : Nat} {w W w2 : World} {pre us : List Tm} {l : Tm} {c : Int} (HBB : BelowBut bs base w W) (hb2 : Below W.drew.heap.size W.drew w2)
    (hbx : W.heap[bs]? = some (.cells #[.slice (some ⟨g, 0, none⟩) (k + 1) cap, CF] SrT (0, 0))) (hrow : W.ownsRow base TI 2 (.slice (some ⟨g, 0, none⟩) (k + 1) cap) (k + 1) (termsV us))
    (hus : pre ++ [l] = us) (hk : pre.length = k) (hbs : bs < base) (hgb : base ≤ g) (hbase : base ≤ W.heap.size) :
    HoldS base bs (pre ++ [⟨c, l.s⟩]) ((w2.setCell ⟨g, k * 2, none⟩ (.int .i64 c)).setCell ⟨g, k * 2 + 1, none⟩ (.string l.s)) ∧
      BelowBut bs base w ((w2.setCell ⟨g, k * 2, none⟩ (.int .i64 c)).setCell ⟨g, k * 2 + 1, none⟩ (.string l.s)) := by
  subst hus
  have hB : Below W.heap.size W w2 := (Below.refl _ W).drew.trans hb2
  have hll : (pre ++ [l]).length = k + 1 := by rw [List.length_append, hk]; rfl
  have hr2 : w2.ownsRow base TI 2 (.slice (some ⟨g, 0, none⟩) (k + 1) cap) (k + 1) (termsV (pre ++ [l])) := by
    rw [← hll] at hrow ⊢
    exact OwnT.below hrow hB
  have hst := ((hr2.stored (k * 2) (.int .i64 c)).1.stored (k * 2 + 1) (.string l.s)).1
  rw [set_last pre l c k hk] at hst
  have hb3 : Below base W ((w2.setCell ⟨g, k * 2, none⟩ (.int .i64 c)).setCell ⟨g, k * 2 + 1, none⟩ (.string l.s)) :=
    ((hB.mono hbase).setCell (p := ⟨g, k * 2, none⟩) hgb _).setCell (p := ⟨g, k * 2 + 1, none⟩) hgb _
  have hl2 : (pre ++ [(⟨c, l.s⟩ : Tm)]).length = k + 1 := by rw [List.length_append, hk]; rfl
  exact ⟨⟨_, (hb3.block bs hbs).trans hbx, by rw [hl2]; exact hst⟩, HBB.trans (BelowBut.of bs hb3)⟩

end Go.Proofs.Ytdhmicpoigoleab

/- The contracts of the program's 'push' (all ways in one) and 'gathered'. -/

namespace Go.Proofs.Ytdhmicpoigoleab
open Go.RowKit Go.Shelf

theorem push_len (acc : List Tm) (t : Tm) : (pushT acc t).length ≤ acc.length + 1 := by
  rcases List.eq_nil_or_concat acc with rfl | ⟨b, l, rfl⟩
  · rw [push_nil]; simp
  · rw [List.concat_eq_append, push_last]; split <;> simp
theorem push_bnd {acc : List Tm} {t : Tm} {B C : Int} (h : ∀ u ∈ acc, -B ≤ u.c ∧ u.c ≤ B) (ht : -C ≤ t.c ∧ t.c ≤ C) (hB : 0 ≤ B) (hC : 0 ≤ C) : ∀ u ∈ pushT acc t, -(B + C) ≤ u.c ∧ u.c ≤ B + C := by
  intro u hu
  rcases List.eq_nil_or_concat acc with rfl | ⟨b, l, rfl⟩
  · rw [push_nil] at hu; rw [List.mem_singleton.1 hu]; omega
  · rw [List.concat_eq_append] at *
    rw [push_last] at hu
    have hl := h l (by simp)
    split at hu
    · rcases List.mem_append.1 hu with hu | hu
      · have := h u (by simp [hu]); omega
      · rw [List.mem_singleton.1 hu]; show -(B + C) ≤ l.c + t.c ∧ l.c + t.c ≤ B + C; omega
    · rcases List.mem_append.1 hu with hu | hu
      · have := h u hu; omega
      · rw [List.mem_singleton.1 hu]; omega
theorem merge_take {ts : List Tm} {k : Nat} (hk : k < ts.length) : mergeT (ts.take (k + 1)) = pushT (mergeT (ts.take k)) ts[k] := by
  unfold mergeT
  rw [List.take_add_one, List.getElem?_eq_getElem hk, List.foldl_append]
  rfl
theorem merge_len (ts : List Tm) : ∀ k, (mergeT (ts.take k)).length ≤ k
  | 0 => by simp [mergeT]
  | k + 1 => by
    by_cases hk : k < ts.length
    · rw [merge_take hk]
      have := push_len (mergeT (ts.take k)) ts[k]
      have := merge_len ts k
      omega
    · have := merge_len ts k
      rw [List.take_of_length_le (by omega)] at this ⊢
      omega
theorem merge_bnd {ts : List Tm} {C : Int} (hC : 0 ≤ C) (h : ∀ u ∈ ts, -C ≤ u.c ∧ u.c ≤ C) : ∀ k : Nat, ∀ u ∈ mergeT (ts.take k), -(C * k) ≤ u.c ∧ u.c ≤ C * k
  | 0, u, hu => by simp [mergeT] at hu
  | k + 1, u, hu => by
    have e : C * ((k + 1 : Nat) : Int) = C * k + C := by rw [Int.natCast_add, Int.mul_add]; simp
    have hk0 : 0 ≤ C * (k : Int) := Int.mul_nonneg hC (Int.natCast_nonneg _)
    rw [e]
    by_cases hk : k < ts.length
    · rw [merge_take hk] at hu
      exact push_bnd (merge_bnd hC h k) (h _ (List.getElem_mem hk)) hk0 hC u hu
    · rw [List.take_of_length_le (by omega)] at hu
      have := merge_bnd hC h k u (by rw [List.take_of_length_le (by omega)]; exact hu)
      omega
theorem merge_all (ts : List Tm) : mergeT (ts.take ts.length) = mergeT ts := by rw [List.take_of_length_le (Nat.le_refl _)]

theorem HoldS.alloc {base bs : Nat} {acc : List Tm} {w : World} (h : HoldS base bs acc w) (hb : bs < w.heap.size) (o : Obj) : HoldS base bs acc (w.alloc o) := by
  obtain ⟨v, h1, h2⟩ := h
  exact ⟨v, (Below.heap_alloc _ _ _ hb).trans h1, h2.alloc _⟩
theorem smallT_perm {ss ts : List Tm} (hp : ss.Perm ts) (hl : ts.length ≤ maxLen) (h : ∀ t ∈ ts, t.s.size ≤ maxLen ∧ -9223372036854775808 ≤ t.c ∧ t.c ≤ 9223372036854775807) : SmallT ss :=
  ⟨by rw [hp.length_eq]; exact hl, fun t ht => h t (hp.mem_iff.1 ht)⟩

end Go.Proofs.Ytdhmicpoigoleab

/- The contract of slices.DeleteFunc at 'isZero'. -/

namespace Go.Proofs.Ytdhmicpoigoleab
open Go.RowKit Go.Shelf

/-- A shorter slice of the same row. -/
theorem ownsRow_shorter {w : World} {base : Nat} {e : TypeId} {size g n k cap : Nat} {xs : List Value} (h : w.ownsRow base e size (.slice (some ⟨g, 0, none⟩) n cap) n xs) (hk : k ≤ n) :
    w.ownsRow base e size (.slice (some ⟨g, 0, none⟩) k cap) k (xs.take (k * size)) := by
  have hks : k * size ≤ n * size := Nat.mul_le_mul_right _ hk
  rcases h.2 with ⟨h', _⟩ | ⟨g', cap', cur, h', hb, hg, hnc, hcm, hcs, htake⟩
  · simp at h'
  · simp only [Value.slice.injEq, Option.some.injEq, Addr.mk.injEq, and_true, true_and] at h'
    obtain ⟨rfl, rfl⟩ := h'
    refine ⟨by rw [List.length_take, h.1]; omega, .inr ⟨g, cap, cur, rfl, hb, hg, by omega, hcm, hcs, ?_⟩⟩
    rw [← htake, List.take_take, Nat.min_eq_left hks]
/-- Stores behind the first m cells. -/
theorem ownsRow_behind {base : Nat} {e : TypeId} {size g n cap m : Nat} : ∀ (vs : List Value) (o : Nat) {w : World} {xs : List Value}, w.ownsRow base e size (.slice (some ⟨g, 0, none⟩) n cap) n xs → m ≤ o →
    ∃ ys, (w.setCells g o vs).ownsRow base e size (.slice (some ⟨g, 0, none⟩) n cap) n ys ∧ ys.take m = xs.take m
  | [], _, _, xs, h, _ => ⟨xs, h, rfl⟩
  | v :: r, o, w, xs, h, hm => by
    obtain ⟨ys, h1, h2⟩ := ownsRow_behind (m := m) r (o + 1) (h.stored o v).1 (by omega)
    refine ⟨ys, h1, h2.trans ?_⟩
    rw [List.take_set, List.set_eq_of_length_le (by rw [List.length_take]; omega)]
theorem below_cells {B g : Nat} (hg : B ≤ g) : ∀ (vs : List Value) (o : Nat) {w0 w : World}, Below B w0 w → Below B w0 (w.setCells g o vs)
  | [], _, _, _, h => h
  | v :: r, o, _, _, h => below_cells hg r (o + 1) (h.setCell (p := ⟨g, o, none⟩) hg v)

/-- 'clear' at a slice of terms. -/
theorem clear_terms {P : Program} (w : World) (t : TypeId) (ht : P.underlying t = some (.slice TI)) (hv : ∀ w, (zeroValue TI).run P w = .ok (.agg #[.int .i64 0, .string ByteArray.empty]) w) (b o n c : Nat) (hn : 0 < n)
    (hc : ∀ j, j < n * 2 → (w.cell? ⟨b, o + j, none⟩).isSome = true) (hf : ∀ j, w.frozen? ⟨b, j, none⟩ = false) :
    ∃ vs, ∀ ty, (Builtin.clear_ #[t] ty #[.slice (some ⟨b, o, none⟩) n c]).run P w = .ok (.tuple #[]) (w.setCells b o vs) := by
  refine ⟨(Builtin.zeroCells #[.int .i64 0, .string ByteArray.empty] n).toList, fun ty => ?_⟩
  have hlen : (Builtin.zeroCells #[.int .i64 0, .string ByteArray.empty] n).toList.length = n * 2 := by simp [Builtin.zeroCells]
  have hst := run_storeCells_cells (P := P) b o (Builtin.zeroCells #[.int .i64 0, .string ByteArray.empty] n).toList 0 w (by rw [hlen]; simpa using hc) (fun j _ => hf _) (by
    intro u hu
    simp only [Builtin.zeroCells, Array.toList_map, List.mem_map] at hu
    obtain ⟨i, _, rfl⟩ := hu
    have h2 : i % 2 < 2 := Nat.mod_lt _ (by omega)
    rcases (by omega : i % 2 = 0 ∨ i % 2 = 1) with h | h
    · simp [h, Value.oneCell']
    · simp [h, Value.oneCell'])
  simp only [Nat.add_zero] at hst
  obtain ⟨m, rfl⟩ : ∃ m, n = m + 1 := ⟨n - 1, by omega⟩
  simp [Builtin.clear_, run_underlying ht, hv, Value.cells, hst]

abbrev nzT (ts : List Tm) : List Tm := ts.filter fun t => !(t.c == 0)
theorem nzT_all {ts : List Tm} (h : ∀ j (h : j < ts.length), ts[j].c ≠ 0) : nzT ts = ts := by
  refine List.filter_eq_self.2 fun t ht => ?_
  obtain ⟨j, hj, rfl⟩ := List.getElem_of_mem ht
  simpa using h j hj
theorem nzT_first {ts : List Tm} {i : Nat} (hi : i < ts.length) (h0 : ts[i].c = 0) (h : ∀ j (h : j < i), ts[j].c ≠ 0) : nzT (ts.take (i + 1)) = ts.take i := by
  rw [List.take_add_one, List.getElem?_eq_getElem hi]
  unfold nzT
  rw [List.filter_append]
  have h1 : (ts.take i).filter (fun t => !(t.c == 0)) = ts.take i := nzT_all fun j hj => by
    rw [List.length_take] at hj
    rw [List.getElem_take]
    exact h j (by omega)
  rw [h1]
  simp [h0]
theorem nzT_step {ts : List Tm} {j : Nat} {t : Tm} (hj : j < ts.length) (ht : ts[j] = t) : nzT (ts.take (j + 1)) = nzT (ts.take j) ++ (if t.c = 0 then [] else [t]) := by
  rw [List.take_add_one, List.getElem?_eq_getElem hj]
  unfold nzT
  rw [List.filter_append, ht]
  by_cases h : t.c = 0 <;> simp [h]
theorem nzT_len (ts : List Tm) (j : Nat) : (nzT (ts.take j)).length ≤ j := Nat.le_trans (List.length_filter_le _ _) (by rw [List.length_take]; omega)

/-- The terms kept so far, and the rest as it was. -/
structure Kept (base : Nat) (w : World) (g cap n i j : Nat) (ts us : List Tm) : Prop where
  own : w.ownsRow base TI 2 (.slice (some ⟨g, 0, none⟩) n cap) n (termsV us)
  len : us.length = n
  head : us.take i = nzT (ts.take j)
  tail : us.drop j = ts.drop j
  hi : i < j
  hj : j ≤ n
theorem Kept.below {base : Nat} {w w' : World} {g cap n i j : Nat} {ts us : List Tm} (h : Kept base w g cap n i j ts us) (hb : Below w.heap.size w w') : Kept base w' g cap n i j ts us :=
  ⟨by have := h.own; rw [← h.len] at this ⊢; exact OwnT.below this hb, h.len, h.head, h.tail, h.hi, h.hj⟩
theorem Kept.at_ {base : Nat} {w : World} {g cap n i j : Nat} {ts us : List Tm} (h : Kept base w g cap n i j ts us) (hjn : j < n) (hz : j < ts.length) :
    w.cell? ⟨g, j * 2, none⟩ = some (.int .i64 ts[j].c) ∧ w.cell? ⟨g, j * 2 + 1, none⟩ = some (.string ts[j].s) := by
  have hta := termsAt_of_owns (ts := us) (g := g) (cap := cap) rfl (by rw [h.len]; exact h.own)
  have hju : j < us.length := by rw [h.len]; exact hjn
  obtain ⟨h1, h2⟩ := hta.2 j hju
  have e : us[j] = ts[j] := by
    have := congrArg (·[0]?) h.tail
    simp only [List.getElem?_drop, Nat.add_zero, List.getElem?_eq_getElem hju, List.getElem?_eq_getElem hz] at this
    exact Option.some.inj this
  rw [e] at h1 h2
  rw [add_off] at h1 h2
  exact ⟨h1, h2⟩
theorem Kept.keep {base : Nat} {w : World} {g cap n i j : Nat} {ts us : List Tm} {t : Tm} (h : Kept base w g cap n i j ts us) (hz : j < ts.length) (hjn : j < n) (ht : ts[j] = t) (hc : t.c ≠ 0) :
    Kept base ((w.setCell ⟨g, i * 2, none⟩ (.int .i64 t.c)).setCell ⟨g, i * 2 + 1, none⟩ (.string t.s)) g cap n (i + 1) (j + 1) ts (us.set i t) := by
  have hiu : i < us.length := by rw [h.len]; have := h.hi; omega
  refine ⟨?_, by rw [List.length_set]; exact h.len, ?_, ?_, by have := h.hi; omega, by omega⟩
  · rw [← set_terms us i t hiu]
    exact ((h.own.stored (i * 2) (.int .i64 t.c)).1.stored (i * 2 + 1) (.string t.s)).1
  · rw [nzT_step hz ht, if_neg hc, ← h.head, List.take_add_one, List.getElem?_set_self hiu, List.take_set, List.set_eq_of_length_le (by rw [List.length_take]; omega)]
    rfl
  · have := congrArg (List.drop 1) h.tail
    rw [List.drop_drop, List.drop_drop] at this
    rw [List.drop_set, if_pos (by have := h.hi; omega)]
    exact this
theorem Kept.skip {base : Nat} {w : World} {g cap n i j : Nat} {ts us : List Tm} {t : Tm} (h : Kept base w g cap n i j ts us) (hz : j < ts.length) (hjn : j < n) (ht : ts[j] = t) (hc : t.c = 0) : Kept base w g cap n i (j + 1) ts us := by
  refine ⟨h.own, h.len, ?_, ?_, by have := h.hi; omega, by omega⟩
  · rw [nzT_step hz ht, if_pos hc, List.append_nil]; exact h.head
  · have := congrArg (List.drop 1) h.tail
    rw [List.drop_drop, List.drop_drop] at this
    exact this

end Go.Proofs.Ytdhmicpoigoleab

/- The contracts of the program's 'toldSum' and 'SumOf'. -/

namespace Go.Proofs.Ytdhmicpoigoleab
open Go.RowKit Go.Shelf

/-- What a call of the program answers that tells a sum. -/
def ITold (w : World) (b : Bool) (us : List Tm) (e : Ending) (w' : World) : Prop := (∃ v', e = .returned (.tuple #[v', .bool b]) ∧ OwnT w.heap.size w' v' (cond b us [])) ∧ Below w.heap.size w w'
theorem ownNil (base : Nat) (w : World) : OwnT base w (.slice none 0 0) [] := ⟨rfl, .inl ⟨rfl, rfl⟩⟩
/-- Terms that may be gathered: not too many, not too great, their words of whatever length. -/
theorem filter_small {ts : List Tm} {p : Tm → Bool} (h : SmallT ts) : SmallT (ts.filter p) :=
  ⟨Nat.le_trans (List.length_filter_le _ _) h.1, fun t ht => h.2 t (List.mem_filter.1 ht).1⟩
theorem push_words {acc : List Tm} {t : Tm} {M : Nat} (h : ∀ u ∈ acc, u.s.size ≤ M) (ht : t.s.size ≤ M) : ∀ u ∈ pushT acc t, u.s.size ≤ M := by
  intro u hu
  rcases List.eq_nil_or_concat acc with rfl | ⟨b, l, rfl⟩
  · rw [push_nil] at hu; rw [List.mem_singleton.1 hu]; exact ht
  · rw [List.concat_eq_append] at *
    rw [push_last] at hu
    have hl := h l (by simp)
    split at hu
    · rcases List.mem_append.1 hu with hu | hu
      · exact h u (by simp [hu])
      · rw [List.mem_singleton.1 hu]; exact hl
    · rcases List.mem_append.1 hu with hu | hu
      · exact h u hu
      · rw [List.mem_singleton.1 hu]; exact ht
theorem merge_words {M : Nat} : ∀ (ts acc : List Tm), (∀ u ∈ acc, u.s.size ≤ M) → (∀ u ∈ ts, u.s.size ≤ M) → ∀ u ∈ ts.foldl pushT acc, u.s.size ≤ M
  | [], _, h, _ => h
  | t :: r, acc, h, ht => merge_words r (pushT acc t) (push_words h (ht t (by simp))) (fun u hu => ht u (by simp [hu]))
theorem merge_small {ts : List Tm} (hn : ts.length ≤ 100000) (hc : ∀ t ∈ ts, -1000000000000 ≤ t.c ∧ t.c ≤ 1000000000000) (hs : ∀ t ∈ ts, t.s.size ≤ maxLen) : SmallT (mergeT ts) := by
  have h1 := merge_len ts ts.length
  have h2 := merge_bnd (C := 1000000000000) (by omega) hc ts.length
  rw [merge_all] at h1 h2
  refine ⟨by unfold maxLen; omega, fun t ht => ⟨merge_words ts [] (fun u h => by cases h) hs t ht, ?_⟩⟩
  have := h2 t ht
  omega

end Go.Proofs.Ytdhmicpoigoleab

/- A map copied, cleared, made with one entry; the contracts of the program's 'oneSeries' and 'told' (of a series). -/

namespace Go.Proofs.Ytdhmicpoigoleab
open Go.RowKit Go.Shelf Go.Maps Go.MapKept

def cloneS_ren : Go.Shelf.Ren := ⟨fun | 5 => 69 | 7 => 80 | n => n, fun | 23 => 67 | 25 => 52 | 3 => 3 | 4 => 4 | 20 => 20 | n => n, fun n => n⟩
theorem cloneS : SlLaysW.n5 Try.prog cloneS_ren := {
  mixed := by kernel_rfl
  f5 := Exists.intro "maps.Clone[loop.example/foxcalculus/impl.series,loop.example/foxcalculus/impl.monomial,int]" ⟨of_decide_eq_true (by kernel_rfl), Try.func69.trans (congrArg some (by kernel_rfl))⟩
  f7 := Try.func80.trans (congrArg some (by kernel_rfl))
  t4 := Try.underlying4
  a4 := Try.isAgg4
  z4 := Try.sizeOf4
  v4 := Try.zeroValue4
  t20 := Try.underlying20
  a20 := Try.isAgg20
  z20 := Try.sizeOf20
  v20 := Try.zeroValue20
  t23 := Try.underlying67
  a23 := Try.isAgg67
  z23 := Try.sizeOf67
  v23 := Try.zeroValue67 }
theorem clone_any (b : Nat) (ts : List Tm) (w : World) (h : MapT w b ts) :
    Calls Try.prog 69 #[.map (some b)] w fun e w' => e = .returned (.map (some w.heap.size)) ∧ MapT w' w.heap.size ts ∧ Below w.heap.size w w' := by
  obtain ⟨es, h, hq⟩ := h
  refine (AnyW.maps_Clone_owns cloneS MonT _ b _ _ w h).mono ?_
  rintro e w' ⟨rfl, h1, _, h2⟩
  exact ⟨rfl, ⟨es, h1, hq⟩, h2⟩

section
variable {ops : Array Oper} {rest : List Oper} {o : Oper} {a : Act} {Q : Exit → Act → World → Prop}
theorem wpList_clear_map (w : World) (hg : o.guard = none) (m : Operand) (hop : o.op = Op.call { callee := Callee.builtin Builtin.clear, args := #[m], argTypes := #[SerT] }) (b : Nat) (ts : List Tm) (hm : a.eval m = .map (some b)) (h : MapT w b ts)
    (hK : ∀ w', MapT w' b [] → w.grownBy w' (some b) → wpList Try.prog ops Q rest (a.put o.dst (.tuple #[])) w') : wpList Try.prog ops Q (o :: rest) a w := by
  obtain ⟨es, ⟨es', clock, hb, F, _, _⟩, _⟩ := h
  have hrun : (Builtin.clear_ #[SerT] o.type #[.map (some b)]).run Try.prog w = .ok (.tuple #[]) { w with heap := w.heap.setIfInBounds b (.map #[] clock) } := by
    simp [Builtin.clear_, run_underlying undSer, Go.MapKept.run_getObj_map hb, Go.MapKept.run_setObj_map _ hb, Result.andThen]
  refine wpList_plain hg fun K' hK' => ?_
  unfold Oper.wp
  simp [execOp, hop, resolve, invoke, builtin, hm, hrun, Result.andThen]
  exact hK' _ _ (hK _ ⟨[], ⟨#[], clock, (heap_set hb).1, ⟨by simp, stamped_empty _, by simp⟩, Nat.le_refl _, rfl⟩, .refl _⟩ ⟨rfl, rfl, rfl, by simp, fun k _ hk => (heap_set hb).2 k fun e => hk (by rw [e])⟩)
theorem wpList_insert_map (w : World) (hg : o.guard = none) (m x v : Operand) (hop : o.op = Op.insert SerT m x v) (b : Nat) (ts : List Tm) (hm : a.eval m = .map (some b)) (h : MapT w b ts) (hn : ts.length < maxLen) (s : ByteArray) (c : Int)
    (hx : a.eval x = .string s) (hv : a.eval v = .int .i64 c) (hs : s.size ≤ maxLen) (hc : (Lit.int .i64 c).wf = true)
    (hK : ∀ w', MapT w' b (putT ts s c) → w.grownBy w' (some b) → wpList Try.prog ops Q rest (a.put o.dst undef) w') : wpList Try.prog ops Q (o :: rest) a w := by
  obtain ⟨D, hown, hput⟩ := h.store
  refine wpList_plain hg fun K' hK' => ?_
  obtain ⟨w', hrun, r1, r2⟩ := hown.update lawMon undSer hn (key_mk hs) (plainElem_int (H := Unit) Try.underlying3 hc)
  unfold Oper.wp
  simp [execOp, hop, hm, hx, hv, hrun, Result.andThen]
  exact hK' _ _ (hK w' (hput s c w' r1) r2)
end

theorem oneSeries_any (w : World) : Calls Try.prog 57 #[] w fun e w' => (∃ b, e = .returned (.map (some b)) ∧ w.heap.size ≤ b ∧ MapT w' b [⟨1, { data := #[] }⟩]) ∧ Below w.heap.size w w' := by
  have hmm := @run_makeMap Try.prog
  have h0 := mapT_made w
  go_enter Try.func57, Try.ntmps57
  go_wp2_with (first | (refine wpList_insert_map _ rfl _ _ _ rfl w.heap.size [] rfl h0 (by simp [maxLen]) _ _ rfl rfl (Nat.zero_le _) (by decide) ?_; intro w1 h1 hg1) | go_in)
  go_ret
  exact ⟨⟨_, rfl, Nat.le_refl _, h1⟩, ((Below.refl _ w).alloc (Nat.le_refl _) _).grown hg1 (by simp) (fun k e => by cases e; exact Nat.le_refl _)⟩

/-! ### told -/
def nzT2 (ts : List Tm) : List Tm := ts.filter fun t => !(t.c == 0)
theorem nzT2_snoc (ts : List Tm) (c : Int) (s : ByteArray) : nzT2 (ts ++ [⟨c, s⟩]) = if c = 0 then nzT2 ts else nzT2 ts ++ [⟨c, s⟩] := by
  unfold nzT2
  rw [List.filter_append, List.filter_cons, List.filter_nil]
  by_cases h : c = 0
  · simp [h]
  · simp [h]
theorem sorted_canon {ss ts : List Tm} (ha : Apart ts) (hp : ss.Perm (nzT2 ts)) (hs : ss.Pairwise (fun a b => lessW b.s a.s = false)) : ss = canonT ts := by
  have hsub : Apart (nzT2 ts) := List.Pairwise.filter _ ha
  have hss : Apart ss := hsub.perm hp.symm
  refine canonT_unique ⟨?_, fun t ht => ?_⟩ fun s => ?_
  · have h2 := List.pairwise_iff_getElem.1 hss
    have h1 := List.pairwise_iff_getElem.1 hs
    refine List.pairwise_iff_getElem.2 fun i j hi hj hij => ?_
    cases h : lessW ss[i].s ss[j].s
    · exact absurd (lessW_tri h (h1 i j hi hj hij)) (h2 i j hi hj hij)
    · rfl
  · have := (List.mem_filter.1 (hp.mem_iff.1 ht)).2
    simpa using this
  · rw [coefAt_perm s hp]; exact coefAt_filter s ts

end Go.Proofs.Ytdhmicpoigoleab

/- The contract of the program's 'times' (of series). -/

namespace Go.Proofs.Ytdhmicpoigoleab
open Go.RowKit Go.Shelf

theorem put_fresh {ts : List Tm} {s : ByteArray} {v : Int} (h : ∀ t ∈ ts, t.s ≠ s) : putT ts s v = ⟨v, s⟩ :: ts := by
  unfold putT
  rw [filter_every fun t ht => by simp [h t ht]]
theorem canon_apart {ts : List Tm} (h : Canon ts) : Apart ts := h.1.imp fun hl => lessW_ne hl
theorem apart_fresh {ts : List Tm} (h : Apart ts) {k : Nat} (hk : k < ts.length) : ∀ t ∈ ts.take k, t.s ≠ ts[k].s := fun t ht => by
  obtain ⟨i, hi, rfl⟩ := List.getElem_of_mem ht
  rw [List.length_take] at hi
  rw [List.getElem_take]
  exact List.pairwise_iff_getElem.1 h i k (by omega) hk (by omega)
theorem take_perm {ts : List Tm} {k : Nat} (hk : k < ts.length) : (ts[k] :: ts.take k).Perm (ts.take (k + 1)) := by
  rw [List.take_succ_eq_append_getElem hk]
  exact List.perm_append_comm (l₁ := [ts[k]])

/-! ### times -/
set_option maxRecDepth 100000 in
set_option maxHeartbeats 4000000 in
theorem times_any (b b2 : Nat) (X Y : List Tm) (w : World) (hne : b ≠ b2) (hX : MapT w b X) (hY : MapT w b2 Y) (mX : MonoT X) (mY : MonoT Y) (cX : BndT 1000000 X) (cY : BndT 1000000 Y) :
    Calls Try.prog 58 #[.map (some b), .map (some b2)] w fun e w' => e = .returned (.tuple #[]) ∧ (∃ ts, MapT w' b ts ∧ MonoT ts ∧ ∀ k, coefAt k ts = coefAt k (pairsS X Y)) ∧ w.grownBy w' (some b) := by
  have hb := hX.lt
  have hb2 := hY.lt
  have hlX := apart_len341 hX.apart mX
  have hlY := apart_len341 hY.apart mY
  have HX := Lib.hid hX
  have HY := Lib.hid hY
  have MX := Lib.hid mX
  have MY := Lib.hid mY
  have CX := Lib.hid cX
  have CY := Lib.hid cY
  clear hX hY mX mY cX cY
  go_enter Try.func58, Try.ntmps58
  go_wp2_with fail
  refine (clone_any b X w HX.out).mono ?_
  rintro e w1 ⟨rfl, hc, hb1⟩
  have hcl := hc.lt
  obtain ⟨cb, hcb⟩ : ∃ cb, w.heap.size = cb := ⟨_, rfl⟩
  rw [hcb] at hc hcl ⊢
  have HC1 := Lib.hid hc
  have HX1 := Lib.hid (HX.out.below hb1)
  have HY1 := Lib.hid (HY.out.below hb1)
  have G1 : w.grownBy w1 (some b) := (grown_of_below hb1).but _
  have HG1 := Lib.hid G1
  have HCB := Lib.hid hcb
  have hbc : b < cb := by omega
  have hb2c : b2 < cb := by omega
  clear hc hb1 G1 hcb hb hb2
  go_wp2_with (first | (refine wpList_clear_map _ rfl _ rfl b X rfl HX1.out ?_; intro w2 h2 hg2) | (at_range; refine wpList_range_map _ rfl _ rfl b2 Y rfl (HY1.out.kept hg2 (by simp; omega)) ?_; intro w3 hrg3 hg3 hs3) | go_in)
  go_frame
  have hs2 := hg2.size
  obtain ⟨r, hr⟩ : ∃ r, w2.heap.size = r := ⟨_, rfl⟩
  rw [hr] at hrg3 hs3 ⊢
  have HC3 : MapT w3 cb X := (HC1.out.kept hg2 (by simp; omega)).kept hg3 (by simp)
  have H3 : MapT w3 b [] := h2.kept hg3 (by simp)
  have G3 : w.grownBy w3 (some b) := (HG1.out.andThen hg2 (fun j hj => by cases hj; exact Or.inr rfl)).andThen hg3 (fun j hj => by cases hj)
  have hrc : cb < r := by omega
  go_loopw [5] (fun _ wr => ∃ (done : List Tm) (cnt : Nat) (ts : List Tm), RangeT wr b2 r Y done cnt ∧ MapT wr cb X ∧ MapT wr b ts ∧ Hid (MonoT ts ∧ ∀ k, coefAt k ts = coefAt k (pairsQ done X)) ∧ w.grownBy wr (some b))
    (fun _ wr => wr.rangeLeft b2 r)
  case atStart => exact ⟨[], _, [], hrg3, HC3, H3, Lib.hid ⟨fun t ht => by (cases ht), fun _ => rfl⟩, G3⟩
  case round =>
    obtain ⟨done, cnt, ts, hrg, hC, hT, HF, hG⟩ := hrel
    have hcl := hrg.cnt
    have hdl := hrg.donelen
    have hrl := hrg.lt
    have HRG := Lib.hid hrg
    have HCC := Lib.hid hC
    have HTT := Lib.hid hT
    have HGG := Lib.hid hG
    clear hrg hC hT hG H3 G3 HC3 hrg3 hg3 h2 hg2
    go_wp2_with (first | (at_next; refine wpList_next_map _ rfl _ rfl b2 r Y done cnt rfl HRG.out ?_ ?_) | go_in)
    · intro hperm
      go_wp2
      go_end0
      refine ⟨rfl, ⟨ts, HTT.out, HF.out.1, fun k => ?_⟩, HGG.out⟩
      rw [HF.out.2, coefAt_perm k (pairsQ_perm X hperm), pairsQ_swap]
    · intro m y v1 cnt1 hmem hrg1 hlt hg1 hs1 hen
      have HCv := Lib.hid (HCC.out.kept hg1 (by simp; omega))
      have HTv := Lib.hid (HTT.out.kept hg1 (by simp; omega))
      have HGv := Lib.hid (HGG.out.andThen hg1 (fun j hj => by cases hj; exact Or.inl (by have := HCB.out; omega)))
      have HRv := Lib.hid hrg1
      have hym := MY.out _ hmem
      have hys : y.size ≤ 4 := mono_size hym
      have hyc := CY.out _ hmem
      have HYM := Lib.hid hym
      have HYC := Lib.hid hyc
      clear hmem hym hyc hrg1 hg1 HRG HCC HTT HGG
      go_wp2_with (first | (at_range; refine wpList_range_map _ rfl _ rfl cb X rfl HCv.out ?_; intro v2 hrg2 hg2 hs2) | go_in)
      try go_frame
      rw [hs1] at hrg2 hs2
      obtain ⟨r2, hr2⟩ : ∃ r2, wr.heap.size = r2 := ⟨_, rfl⟩
      rw [hr2] at hrg2 hs2 ⊢
      have hrr : r < r2 := by omega
      have HR2 : RangeT v2 b2 r Y (done ++ [⟨m, y⟩]) cnt1 := HRv.out.kept hg2 (by simp) (by simp)
      have HT2 : MapT v2 b ts := HTv.out.kept hg2 (by simp)
      have HG2 : w.grownBy v2 (some b) := HGv.out.andThen hg2 (fun j hj => by cases hj)
      go_loopw [7] (fun _ wr => ∃ (dX : List Tm) (cnt2 : Nat) (us : List Tm), RangeT wr cb r2 X dX cnt2 ∧ RangeT wr b2 r Y (done ++ [⟨m, y⟩]) cnt1 ∧ MapT wr b us ∧ Hid (MonoT us ∧ ∀ k, coefAt k us = coefAt k (pairsQ done X ++ rowQ ⟨m, y⟩ dX)) ∧ w.grownBy wr (some b))
        (fun _ wr => wr.rangeLeft cb r2)
      case atStart => exact ⟨[], _, ts, hrg2, HR2, HT2, Lib.hid ⟨HF.out.1, fun k => by rw [HF.out.2, coefAt_append]; simp [rowQ, coefAt]⟩, HG2⟩
      case round =>
        obtain ⟨dX, cnt2, us, hrgX, hrgY, hU, HU, hGr⟩ := hrel
        have hcl2 := hrgX.cnt
        have hdl2 := hrgX.donelen
        have HRX := Lib.hid hrgX
        have HRY := Lib.hid hrgY
        have HUU := Lib.hid hU
        have HGr := Lib.hid hGr
        clear hrgX hrgY hU hGr HR2 HT2 HG2 hrg2 hg2
        go_wp2_with (first | (at_next; refine wpList_next_map _ rfl _ rfl cb r2 X dX cnt2 rfl HRX.out ?_ ?_) | go_in)
        · intro hperm
          have hl1 := HRY.out.cnt
          go_wp2
          go_roundw
          case rel => exact ⟨_, cnt1, us, HRY.out, HRX.out.map, HUU.out, Lib.hid ⟨HU.out.1, fun k => by rw [HU.out.2, pairsQ_snoc, coefAt_append, coefAt_append, coefAt_perm k (rowQ_perm _ hperm)]⟩, HGr.out⟩
          case measure => rw [hl1, hcl]; exact hlt
        · intro n x v3 cnt3 hmem hrgX hlt2 hg3 hs3 hen2
          have HRX3 := Lib.hid hrgX
          have HRY3 := Lib.hid (HRY.out.kept hg3 (by simp; omega) (by simp; omega))
          have HU3 := Lib.hid (HUU.out.kept hg3 (by simp; omega))
          have HG3 := Lib.hid (HGr.out.andThen hg3 (fun j hj => by cases hj; exact Or.inl (by have := HCB.out; omega)))
          have hxm := MX.out _ hmem
          have hxs : x.size ≤ 4 := mono_size hxm
          have hxc := CX.out _ hmem
          have hsn := rowQ_snoc ⟨m, y⟩ dX ⟨n, x⟩
          have hl3 := hrgX.cnt
          clear hmem hrgX hg3 HRX HRY HUU HGr
          by_cases h4 : x.size + y.size ≤ 4
          · have hd4 : decide ((x.size : Int) + (y.size : Int) ≤ 4) = true := decide_eq_true (by omega)
            obtain ⟨q, hq⟩ : ∃ q, x ++ y = q := ⟨_, rfl⟩
            have hqs : q.size = x.size + y.size := by rw [← hq]; exact ByteArray.size_append
            have hnot : ¬ 9223372036854775807 < x.size + y.size := by omega
            have hqm : q.size ≤ maxLen := by unfold maxLen; omega
            have hqmono : monoB q = true := by rw [← hq]; exact mono_append hxm HYM.out (by rw [hq]; omega)
            have hsn' : rowQ ⟨m, y⟩ (dX ++ [⟨n, x⟩]) = rowQ ⟨m, y⟩ dX ++ [⟨n * m, q⟩] := by rw [hsn, hq, if_pos (by omega)]
            have hmb := mul_bnd hxc HYC.out
            simp only at hmb
            obtain ⟨d, hd⟩ : ∃ d, n * m = d := ⟨_, rfl⟩
            rw [hd] at hmb hsn'
            have hmul : IntKind.i64.wrap (n * m) = d := by rw [hd]; exact IntWalk.i64_in _ (by omega)
            obtain ⟨z, hz⟩ : ∃ z, coefAt q us = z := ⟨_, rfl⟩
            have hzb : -120000000000000000 ≤ z ∧ z ≤ 120000000000000000 := by
              rw [← hz, HU.out.2]
              have hbq : BndT 1000000000000 (pairsQ done X ++ rowQ ⟨m, y⟩ dX) := fun t ht => by
                rcases List.mem_append.1 ht with ht | ht
                · exact bndQQ CX.out (fun u hu => CY.out u (HRY3.out.sub u (List.mem_append.2 (.inl hu)))) t ht
                · exact bndQ (fun u hu => CX.out u (HRX3.out.sub u (List.mem_append.2 (.inl hu)))) HYC.out t ht
              have h1 := coef_bnd (by omega) q hbq
              have h2 := pairsQ_len X done
              have h3 := rowQ_len ⟨m, y⟩ dX
              have h5 : done.length * X.length ≤ 341 * 341 := Nat.mul_le_mul (by omega) hlX
              have h6 : (pairsQ done X ++ rowQ ⟨m, y⟩ dX).length ≤ 341 * 341 + 341 := by rw [List.length_append]; omega
              omega
            have hadd : IntKind.i64.wrap (z + d) = z + d := IntWalk.i64_in _ (by omega)
            have hwf : (Lit.int .i64 (z + d)).wf = true := by
              simp only [Lit.wf, Bool.and_eq_true, decide_eq_true_eq]
              have e1 : IntKind.i64.min = -9223372036854775808 := by decide
              have e2 : IntKind.i64.max = 9223372036854775807 := by decide
              omega
            have hul : us.length < maxLen := by have := apart_len341 HU3.out.apart HU.out.1; unfold maxLen; omega
            have HSN := Lib.hid hsn'
            have HQM := Lib.hid hqmono
            have HZ := Lib.hid hz
            have HUL := Lib.hid hul
            have HWF := Lib.hid hwf
            have HQS := Lib.hid hqs
            clear hsn hsn' hqmono hmb hzb hxc hxm hul hwf hd hqs
            go_wp2_with (first | (refine wpList_lookup_map _ rfl _ _ rfl b us rfl HU3.out q rfl hqm ?_; rw [HZ.out]) | (refine wpList_update_map _ rfl _ _ _ rfl b us rfl HU3.out HUL.out q (z + d) rfl rfl hqm HWF.out ?_; intro v5 h5 hg5; simp only [Act.put]) | go_in)
            have hR5 := HRX3.out.kept hg5 (by simp; omega) (by simp; omega)
            have hl5 := hR5.cnt
            go_roundw
            case rel =>
              refine ⟨_, cnt3, _, hR5, HRY3.out.kept hg5 (by simp; omega) (by simp; omega), h5, Lib.hid ⟨mono_put HU.out.1 HQM.out, fun k => ?_⟩, HG3.out.andThen hg5 (fun j hj => by cases hj; exact Or.inr rfl)⟩
              rw [HSN.out, ← List.append_assoc, ← put_add q d HU.out.2 k, HZ.out]
            case measure => rw [hl5, hcl2]; exact hlt2
          · have hd4 : decide ((x.size : Int) + (y.size : Int) ≤ 4) = false := decide_eq_false (by omega)
            rw [if_neg (by simp only [ByteArray.size_append]; omega), List.append_nil] at hsn
            have HSN := Lib.hid hsn
            clear hsn hxc hxm
            go_wp2
            go_roundw
            case rel => exact ⟨_, cnt3, us, HRX3.out, HRY3.out, HU3.out, Lib.hid ⟨HU.out.1, fun k => by rw [HSN.out]; exact HU.out.2 k⟩, HG3.out⟩
            case measure => rw [hl3, hcl2]; exact hlt2

end Go.Proofs.Ytdhmicpoigoleab

/- The contract of the model's 'LyndonCount'. -/

namespace Go.Proofs.Ytdhmicpoigoleab
open Go.RowKit

/-- The function mu, with fuel: d is left, p is tried. -/
def muR : Nat → Nat → Nat → Int → Int
  | 0, _, _, o => o
  | f + 1, d, p, o => if d < p then o else if d % p = 0 then (if d / p % p = 0 then 0 else muR f (d / p) (p + 1) (0 - o)) else muR f d (p + 1) o
def muI (d : Nat) : Int := muR 13 d 2 1

/-- One factor's share, summed up to m; and what LyndonCount answers. -/
def sumMuC (k n : Nat) : Nat → Int
  | 0 => 0
  | m + 1 => if n % (m + 1) = 0 then sumMuC k n m + muI (m + 1) * ((k ^ (n / (m + 1)) : Nat) : Int) else sumMuC k n m
def countI (k n : Nat) : Int := (sumMuC k n n).tdiv n

theorem muR_le : ∀ (f d p : Nat) (o : Int), -1 ≤ o → o ≤ 1 → -1 ≤ muR f d p o ∧ muR f d p o ≤ 1
  | 0, _, _, o, h1, h2 => ⟨h1, h2⟩
  | f + 1, d, p, o, h1, h2 => by
    rw [muR]
    split
    · exact ⟨h1, h2⟩
    · split
      · split
        · exact ⟨by omega, by omega⟩
        · exact muR_le f _ _ _ (by omega) (by omega)
      · exact muR_le f _ _ _ h1 h2
theorem muI_le (d : Nat) : -1 ≤ muI d ∧ muI d ≤ 1 := muR_le _ _ _ _ (by omega) (by omega)
theorem pow_le (k e : Nat) (hk : k ≤ 4) (he : e ≤ 12) : k ^ e ≤ 16777216 :=
  Nat.le_trans (Nat.pow_le_pow_left hk e) (Nat.le_trans (Nat.pow_le_pow_right (by omega) he) (by decide))
theorem share_le (m x : Int) (h1 : -1 ≤ m) (h2 : m ≤ 1) (h3 : 0 ≤ x) (h4 : x ≤ 16777216) : -16777216 ≤ m * x ∧ m * x ≤ 16777216 := by
  rcases (by omega : m = -1 ∨ m = 0 ∨ m = 1) with rfl | rfl | rfl <;> omega
theorem sumC_le (k n : Nat) (hk : k ≤ 4) (hn : n ≤ 12) : ∀ m : Nat, -16777216 * (m : Int) ≤ sumMuC k n m ∧ sumMuC k n m ≤ 16777216 * (m : Int)
  | 0 => ⟨by simp [sumMuC], by simp [sumMuC]⟩
  | m + 1 => by
    have ih := sumC_le k n hk hn m
    rw [sumMuC]
    split
    · have h1 := muI_le (m + 1)
      have h2 := pow_le k (n / (m + 1)) hk (Nat.le_trans (Nat.div_le_self _ _) hn)
      have h3 := share_le _ ((k ^ (n / (m + 1)) : Nat) : Int) h1.1 h1.2 (by omega) (by omega)
      push_cast at h3 ⊢
      exact ⟨by omega, by omega⟩
    · exact ⟨by push_cast; omega, by push_cast; omega⟩
theorem l6In_eq (c a b : Int) (r : Bool) (w : World) (h : inR a b c = r) :
    Calls Try.prog 18 #[.int .i64 c, .int .i64 a, .int .i64 b] w fun e w' => e = .returned (.bool r) ∧ w = w' :=
  (l6In_any c a b w).mono fun _ _ ⟨h1, h2⟩ => ⟨by rw [h1, h], h2⟩

theorem countI_nat {k n : Int} (hb : (inR 1 4 k && inR 1 12 n) = true) : ∃ a b : Nat, k = a ∧ n = b ∧ 1 ≤ a ∧ a ≤ 4 ∧ 1 ≤ b ∧ b ≤ 12 := by
  unfold inR at hb
  simp only [Bool.and_eq_true, decide_eq_true_eq] at hb
  exact ⟨k.toNat, n.toNat, by omega, by omega, by omega, by omega, by omega, by omega⟩
end Go.Proofs.Ytdhmicpoigoleab

/- The contracts of the model's 'l5All' and 'LyndonList'. -/

namespace Go.Proofs.Ytdhmicpoigoleab
open Go.RowKit Go.Shelf

/-- A generator's letter. -/
def chrB (c : Nat) : ByteArray := ⟨#[UInt8.ofNat (97 + c)]⟩
def allC (f : ByteArray → List ByteArray) (b : ByteArray) : Nat → List ByteArray
  | 0 => []
  | c + 1 => allC f b c ++ f (b ++ chrB c)
/-- The Lyndon words that begin so and have m letters more. -/
def allF (k : Nat) : Nat → ByteArray → List ByteArray
  | 0, b => if lynL b.data.toList then [b] else []
  | m + 1, b => allC (allF k m) b k
theorem allC_len (f : ByteArray → List ByteArray) (b : ByteArray) (M : Nat) (h : ∀ x, (f x).length ≤ M) : ∀ c, (allC f b c).length ≤ c * M
  | 0 => by simp [allC]
  | c + 1 => by
    have h1 := allC_len f b M h c
    have h2 := h (b ++ chrB c)
    rw [allC, List.length_append, Nat.succ_mul]
    omega
theorem allF_len (k : Nat) (hk : k ≤ 4) : ∀ m b, (allF k m b).length ≤ 4 ^ m
  | 0, b => by rw [allF]; split <;> simp
  | m + 1, b => by
    have h1 := allC_len (allF k m) b (4 ^ m) (allF_len k hk m) k
    have h2 := Nat.mul_le_mul hk (Nat.le_refl (4 ^ m))
    rw [allF, Nat.pow_succ]
    omega

/-- What LyndonList answers. -/
def listL (k n : Nat) : List ByteArray := allF k n { data := #[] }

end Go.Proofs.Ytdhmicpoigoleab

/- The contracts of the program's 'generatorText', 'isLyndon' and 'mayBegin'. -/

namespace Go.Proofs.Ytdhmicpoigoleab
open Go.RowKit Go.Shelf

theorem chr_nat (g : Nat) (h : g < 4) : ((UInt8.ofNat (97 + g)).toNat : Int) = 97 + (g : Int) := by
  rw [UInt8.toNat_ofNat', Nat.mod_eq_of_lt (by omega)]; omega
set_option maxRecDepth 100000 in
set_option maxHeartbeats 2000000 in
theorem genText_any (g : Nat) (w : World) (hg : g < 4) :
    Calls Try.prog 70 #[.int .i64 g] w fun e w' => e = .returned (.string (chrB g)) ∧ Below w.heap.size w w' := by
  have hr0 : 0 ≤ 97 + (g : Int) := by omega
  have hr1 : 97 + (g : Int) ≤ 255 := by omega
  have hlt : Letters w.heap.size 0 [UInt8.ofNat (97 + g)] (w.alloc (.cells #[.int .u8 (97 + (g : Int))] 77)) :=
    ⟨by simp, fun j hj => by
      have hj0 : j = 0 := by simp at hj; exact hj
      subst hj0
      rw [Nat.zero_add, World.cell?_alloc_at _ _ _ _ (by simp), List.getElem_cons_zero, chr_nat g hg]; rfl⟩
  have HT : Hid (Calls Try.prog 55 #[.slice (some ⟨w.heap.size, 0, none⟩) 1 1] (w.alloc (.cells #[.int .u8 (97 + (g : Int))] 77)) fun e w' => e = .returned (.string (chrB g)) ∧ Below (w.alloc (.cells #[.int .u8 (97 + (g : Int))] 77)).heap.size (w.alloc (.cells #[.int .u8 (97 + (g : Int))] 77)) w') :=
    Lib.hid (text_letters w.heap.size 0 1 1 _ _ rfl (by omega) hlt)
  clear hlt
  go_enter Try.func70, Try.ntmps70
  go_wp2_with fail
  refine HT.out.mono ?_
  rintro e w1 ⟨rfl, hb1⟩
  go_wp2
  go_ret
  exact ⟨rfl, ((Below.refl w.heap.size w).alloc (Nat.le_refl _) _).trans (hb1.mono (by simp))⟩

theorem genText_is (g : Nat) (x : ByteArray) (w : World) (hg : g < 4) (hx : chrB g = x) :
    Calls Try.prog 70 #[.int .i64 g] w fun e w' => e = .returned (.string x) ∧ Below w.heap.size w w' := by
  rw [← hx]; exact genText_any g w hg

/-- Less than each of its shorter ends. -/
def lynP (l : List UInt8) : Bool := (List.range (l.length - 1)).all fun i => Op.bytesLess l (l.drop (i + 1))
theorem lynL_P {l : List UInt8} (h : 0 < l.length) : lynL l = lynP l := by unfold lynL lynP; rw [decide_eq_true h, Bool.true_and]
theorem lynP_one {l : List UInt8} (h : 0 < l.length) (hl : lynL l = true) : lynP l = true := by rw [← lynL_P h]; exact hl

set_option maxRecDepth 100000 in
set_option maxHeartbeats 1000000 in
theorem isLyn_is (s : ByteArray) (b : Bool) (w : World) (hs : s.size ≤ maxLen) (hb : lynP s.data.toList = b) :
    Calls Try.prog 43 #[.string s] w fun e w' => e = .returned (.bool b) ∧ w = w' := by
  have HB := Lib.hid hb
  have hln : s.data.toList.length = s.size := by simp
  have HL := Lib.hid hln
  unfold maxLen at hs
  clear hb hln
  go_enter Try.func43, Try.ntmps43
  go_wp2
  go_loopw [3] (fun i wr => ∃ k : Nat, (k ≤ s.size - 1) ∧ i = .int .i64 ((k + 1 : Nat) : Int) ∧ Hid ((List.range k).all (fun i => Op.bytesLess s.data.toList (s.data.toList.drop (i + 1))) = true) ∧ w = wr) (fun i _ => s.size - (intOf i).toNat)
  case atStart => exact ⟨0, Nat.zero_le _, rfl, Lib.hid rfl, rfl⟩
  case round =>
    obtain ⟨k, hk, rfl, HG, rfl⟩ := hrel
    by_cases hlt : k + 1 < s.size
    · have hlt1 : (k : Int) + 1 < s.size := by omega
      have hge1 : 0 ≤ (k : Int) + 1 := by omega
      have hle1 : (k : Int) + 1 ≤ s.size := by omega
      cases hq : Op.bytesLess s.data.toList (s.data.toList.drop (k + 1)) with
      | true =>
        have hq2 : Op.bytesLess s.toList (s.extract (k + 1) s.size).toList = true := by rw [extract_drop, ByteArray.toList_eq]; exact hq
        have HQ := Lib.hid hq
        clear hq
        go_wp2_with fail
        go_roundw
        case rel => exact ⟨k + 1, by omega, by go_num, Lib.hid (by rw [List.range_succ, List.all_append, HG.out, Bool.true_and]; simp [HQ.out]), trivial⟩
        case measure => simp [intOf]; omega
      | false =>
        have hq2 : Op.bytesLess s.toList (s.extract (k + 1) s.size).toList = false := by rw [extract_drop, ByteArray.toList_eq]; exact hq
        have hbf : b = false := by
          rw [← HB.out]
          unfold lynP
          rw [List.all_eq_false.2 ⟨k, List.mem_range.2 (by rw [HL.out]; omega), by rw [hq]; exact Bool.false_ne_true⟩]
        subst hbf
        clear hq
        go_wp2_with fail
        go_ret
        exact ⟨rfl, rfl⟩
    · have hall : (List.range (s.data.toList.length - 1)).all (fun i => Op.bytesLess s.data.toList (s.data.toList.drop (i + 1))) = true := by
        rw [HL.out, show s.size - 1 = k by omega]; exact HG.out
      have hbb : b = true := by rw [← HB.out]; unfold lynP; rw [hall]
      subst hbb
      have hlt1 : ¬ (k : Int) + 1 < s.size := by omega
      clear hall
      go_wp2_with fail
      go_ret
      exact ⟨rfl, rfl⟩
theorem isLyn_L (s : ByteArray) (b : Bool) (w : World) (hs : s.size ≤ maxLen) (h0 : 0 < s.size) (hb : lynL s.data.toList = b) :
    Calls Try.prog 43 #[.string s] w fun e w' => e = .returned (.bool b) ∧ w = w' :=
  isLyn_is s b w hs (by rw [← lynL_P (by simpa using h0)]; exact hb)

end Go.Proofs.Ytdhmicpoigoleab

/- The contracts of the program's 'series' of a letter and of a word, and of 'SeriesOf'. -/

namespace Go.Proofs.Ytdhmicpoigoleab
open Go.RowKit Go.Shelf

theorem altZ_succ (k : Nat) : altZ (k + 1) = -altZ k := by unfold altZ; split <;> split <;> omega
theorem altZ_one (k : Nat) : altZ k = 1 ∨ altZ k = -1 := by unfold altZ; split <;> simp
theorem bstr_app (a b : List UInt8) : bstr a ++ bstr b = bstr (a ++ b) := bytes_ext (by simp [bstr_toList])
theorem powS_next (c : UInt8) (k : Nat) : bstr (repL k (letX c)) ++ bstr (letX c) = bstr (repL (k + 1) (letX c)) := by rw [bstr_app, ← repL_add, repL_one]
theorem powS_size (c : UInt8) (k : Nat) : (bstr (repL k (letX c))).size = k := by
  have : (bstr (repL k (letX c))).data.toList.length = k := by rw [bstr_toList, repL_len]; simp [letX]
  simpa using this
theorem powT_fresh (c : UInt8) (k : Nat) : ∀ t ∈ (List.range (k + 1)).map (powT c), t.s ≠ bstr (repL (k + 1) (letX c)) := fun t ht => by
  obtain ⟨i, hi, rfl⟩ := List.mem_map.1 ht
  have := List.mem_range.1 hi
  intro e
  have e2 := congrArg ByteArray.size e
  unfold powT at e2
  rw [powS_size, powS_size] at e2
  omega
theorem powT_put (c : UInt8) (k : Nat) : (putT ((List.range (k + 1)).map (powT c)) (bstr (repL (k + 1) (letX c))) (altZ (k + 1))).Perm ((List.range (k + 2)).map (powT c)) := by
  rw [put_fresh (powT_fresh c k), List.range_succ (n := k + 1), List.map_append]
  exact List.perm_append_comm (l₁ := [powT c (k + 1)])

section
attribute [local go_sem] Oper.semAt_some
set_option maxRecDepth 100000 in
set_option maxHeartbeats 4000000 in
theorem letterSeries_any (c : UInt8) (w : World) (hc : letB c = true) :
    Calls Try.prog 59 #[.int .u8 (c.toNat : Int)] w fun e w' => ∃ b, e = .returned (.map (some b)) ∧ w.heap.size ≤ b ∧ MapT w' b (letS c) ∧ Below w.heap.size w w' := by
  have hor := (idx_let c hc).1
  have hj4 := idxB_lt c hc
  obtain ⟨u, hu⟩ : ∃ u, sgnB c = u := ⟨_, rfl⟩
  have HSX : Hid (∀ W, Calls Try.prog 66 #[.int .u8 (c.toNat : Int)] W fun e w' => e = .returned (.int .i64 u) ∧ w' = W) := Lib.hid fun W => by rw [← hu]; exact iSign_any c W hc
  obtain ⟨j, hj⟩ : ∃ j, idxB c = j := ⟨_, rfl⟩
  rw [hj] at hor hj4
  have HU : Hid (sgnB c = u) := Lib.hid hu
  have hlx : letX c = [UInt8.ofNat (97 + j)] := by unfold letX; rw [hj]
  have HLX := Lib.hid hlx
  have HIX : Hid (∀ W, Calls Try.prog 71 #[.int .u8 (c.toNat : Int)] W fun e w' => e = .returned (.int .i64 (j : Int)) ∧ w' = W) := Lib.hid fun W => by rw [← hj]; exact iIndex_any c W hc
  clear hc hu hj hlx
  go_enter Try.func59, Try.ntmps59
  go_wp2_with fail
  refine (HIX.out _).mono ?_
  rintro e w0 ⟨rfl, h0⟩
  obtain rfl := h0.symm
  obtain ⟨gx, hgx⟩ : ∃ gx, bstr (letX c) = gx := ⟨_, rfl⟩
  have HGC : Hid (chrB j = gx) := Lib.hid (by rw [← hgx, HLX.out]; rfl)
  go_wp2_with fail
  refine (genText_is j gx _ hj4 HGC.out).mono ?_
  rintro e w1 ⟨rfl, hb1⟩
  have hB1 : Below w.heap.size w w1 := hb1
  have HB1 := Lib.hid hB1
  have HGX := Lib.hid hgx
  clear hb1 hB1 hgx
  go_wp2_with fail
  refine (oneSeries_any _).mono ?_
  rintro e w2 ⟨⟨mb, rfl, hlo, hM⟩, hb2⟩
  have hB2 : Below w.heap.size w w2 := HB1.out.trans (hb2.mono HB1.out.size)
  have hmb : w.heap.size ≤ mb := Nat.le_trans HB1.out.size hlo
  have HM := Lib.hid hM
  have HB2 := Lib.hid hB2
  clear hb2 hB2 hM hlo
  by_cases h97 : 97 ≤ c.toNat
  · obtain rfl : u = 1 := by rw [← HU.out]; unfold sgnB; rw [if_pos h97]
    have hls : letS c = [⟨1, { data := #[] }⟩, ⟨1, gx⟩] := by unfold letS; rw [if_pos h97, HGX.out]
    have hgs : gx.size ≤ maxLen := by rw [← HGX.out, ← repL_one (letX c), powS_size]; unfold maxLen; omega
    have hfr : putT [(⟨1, { data := #[] }⟩ : Tm)] gx 1 = [⟨1, gx⟩, ⟨1, { data := #[] }⟩] := put_fresh fun t ht => by
      rw [List.mem_singleton.1 ht]
      intro e
      have e2 := congrArg ByteArray.size e
      rw [← HGX.out, ← repL_one (letX c), powS_size] at e2
      cases e2
    have HGS := Lib.hid hgs
    have HFR := Lib.hid hfr
    have HLS := Lib.hid hls
    clear hgs hfr hls h97
    go_wp2_with fail
    refine (HSX.out _).mono ?_
    rintro e w3 ⟨rfl, rfl⟩
    go_wp2_with (first | (refine wpList_update_map _ rfl _ _ _ rfl mb [⟨1, { data := #[] }⟩] rfl HM.out (by simp [maxLen]) gx 1 rfl rfl HGS.out (by decide) ?_; intro v5 h5 hg5; simp only [Act.put]) | go_in)
    go_ret
    refine ⟨mb, rfl, hmb, ?_, HB2.out.grown hg5 HB2.out.size (fun i ei => by cases ei; exact hmb)⟩
    rw [HFR.out] at h5
    rw [HLS.out]
    exact h5.perm (List.Perm.swap _ _ _)
  · obtain rfl : u = -1 := by rw [← HU.out]; unfold sgnB; rw [if_neg h97]
    have HLS : Hid (letS c = (List.range 5).map (powT c)) := Lib.hid (by unfold letS; rw [if_neg h97])
    have HM0 : Hid (MapT w2 mb ((List.range (0 + 1)).map (powT c))) := HM
    clear h97
    go_wp2_with fail
    refine (HSX.out _).mono ?_
    rintro e w3 ⟨rfl, rfl⟩
    go_wp2_with fail
    go_loopw [5, 6, 17] (fun p z i wr => ∃ k : Nat, k ≤ 4 ∧ p = .string (bstr (repL k (letX c))) ∧ z = .int .i64 (altZ k) ∧ i = .int .i64 k ∧ MapT wr mb ((List.range (k + 1)).map (powT c)) ∧ Below w.heap.size w wr) (fun _ _ i _ => 4 - (intOf i).toNat)
    case atStart => exact ⟨0, by omega, rfl, rfl, rfl, HM0.out, HB2.out⟩
    case round =>
      obtain ⟨k, hk, rfl, rfl, rfl, hT, hB⟩ := hrel
      have HT := Lib.hid hT
      have HB := Lib.hid hB
      clear hT hB
      by_cases hlt : k < 4
      · have hpn := powS_next c k
        obtain ⟨p, hp⟩ : ∃ p, bstr (repL k (letX c)) = p := ⟨_, rfl⟩
        obtain ⟨q, hq⟩ : ∃ q, bstr (repL (k + 1) (letX c)) = q := ⟨_, rfl⟩
        have hps : p.size = k := by rw [← hp]; exact powS_size c k
        have hgs : gx.size = 1 := by rw [← HGX.out, ← repL_one (letX c)]; exact powS_size c 1
        have hqs : q.size ≤ maxLen := by rw [← hq, powS_size]; unfold maxLen; omega
        have hput := powT_put c k
        rw [hp, HGX.out, hq] at hpn
        rw [hq] at hput
        obtain ⟨z, hz⟩ : ∃ z, altZ k = z := ⟨_, rfl⟩
        have hz1 : altZ (k + 1) = -z := by rw [← hz]; exact altZ_succ k
        have hzz : z = 1 ∨ z = -1 := by rw [← hz]; exact altZ_one k
        have hneg : IntKind.i64.wrap (-z) = -z := IntWalk.i64_in _ (by omega)
        have hwf : (Lit.int .i64 (-z)).wf = true := by rcases hzz with rfl | rfl <;> decide
        have hnot : ¬ 9223372036854775807 < p.size + gx.size := by omega
        have hli : ((k : Int) < 4) := by omega
        rw [hz1] at hput
        rw [hp, hz]
        have HP := Lib.hid hput
        have HQ := Lib.hid hq
        have HQS := Lib.hid hqs
        have HWF := Lib.hid hwf
        have HZ1 := Lib.hid hz1
        have HUL := Lib.hid (show ((List.range (k + 1)).map (powT c)).length < maxLen by rw [List.length_map, List.length_range]; unfold maxLen; omega)
        clear hp hq hqs hput hz hz1 hzz hwf hps hgs
        go_wp2_with (first | (refine wpList_update_map _ rfl _ _ _ rfl mb ((List.range (k + 1)).map (powT c)) rfl HT.out HUL.out q (-z) rfl rfl HQS.out HWF.out ?_; intro v5 h5 hg5; simp only [Act.put]) | go_in)
        go_roundw
        case rel => exact ⟨k + 1, by omega, by rw [HQ.out], by rw [HZ1.out], by go_num, h5.perm HP.out, HB.out.grown hg5 HB.out.size (fun i ei => by cases ei; exact hmb)⟩
        case measure => simp [intOf]; omega
      · obtain rfl : k = 4 := by omega
        go_wp2
        go_ret
        refine ⟨mb, rfl, hmb, ?_, HB.out⟩
        rw [HLS.out]
        exact HT.out
end

end Go.Proofs.Ytdhmicpoigoleab

/- The contract of the program's 'told' (of a series). -/

namespace Go.Proofs.Ytdhmicpoigoleab
open Go.RowKit Go.Shelf Go.Maps Go.MapKept

set_option maxRecDepth 100000 in
set_option maxHeartbeats 2000000 in
theorem seriesTold_any (b : Nat) (ts : List Tm) (r : Bool) (w : World) (h : MapT w b ts) (hl : ts.length ≤ 1000) (hb : twS (canonT ts) = r) :
    Calls Try.prog 39 #[.map (some b)] w (ITold w r (canonT ts)) := by
  obtain ⟨i0, hi, hz0, hz1, hz2⟩ := info_parts infoTerm
  have hsm := h.small
  have hap := h.apart
  have hbl := h.lt
  have HSM := Lib.hid hsm
  have HAP := Lib.hid hap
  have HBB := Lib.hid hb
  have HL := Lib.hid hl
  clear hsm hap hb
  go_enter Try.func39, Try.ntmps39
  go_wp2_with (first | (at_range; refine wpList_range_map _ rfl _ rfl b ts rfl h ?_; intro w0 hrg0 hg0 hs0) | go_in)
  go_frame
  go_loopw [4] (fun v wr => ∃ (done : List Tm) (cnt : Nat), RangeT wr b w.heap.size ts done cnt ∧ Hid (OwnT w0.heap.size wr v (nzT2 done)) ∧ w0.heap.size ≤ wr.heap.size ∧ Below w.heap.size w wr)
    (fun _ wr => wr.rangeLeft b w.heap.size)
  case atStart => exact ⟨[], _, hrg0, Lib.hid ⟨rfl, .inl ⟨rfl, rfl⟩⟩, Nat.le_refl _, (Below.refl _ _).grown hg0 (Nat.le_refl _) (fun k e => by cases e)⟩
  case round =>
    obtain ⟨done, cnt, hrg, HO, hsz, hB⟩ := hrel
    have hlow0 := Lib.hid (ownsRow_low HO.out)
    have hcl := hrg.cnt
    have hdl := hrg.donelen
    have HRG := Lib.hid hrg
    go_wp2_with (first | (at_next; refine wpList_next_map _ rfl _ rfl b w.heap.size ts done cnt rfl HRG.out ?_ ?_) | go_in)
    · intro hperm
      have hsd : SmallT (nzT2 done) := ⟨by have := List.length_filter_le (fun t : Tm => !(t.c == 0)) done; unfold nzT2 maxLen; omega, fun t ht => HSM.out.2 t (hperm.mem_iff.1 (List.mem_filter.1 ht).1)⟩
      have hld : (nzT2 done).length ≤ 1000000 := by have := List.length_filter_le (fun t : Tm => !(t.c == 0)) done; unfold nzT2; omega
      obtain ⟨a1, c1, rfl, _⟩ := HO.out.isTerms hsd
      have HSO := Lib.hid (sortOwn_any w0.heap.size _ _ (nzT2 done) wr rfl hld hsz HO.out)
      have HPM := Lib.hid hperm
      have HSD := Lib.hid hsd
      clear hrg hperm hsd hld hlow0
      go_wp2_with fail
      refine HSO.out.mono ?_
      rintro e w2 ⟨rfl, ⟨ss, hp, hso, ho⟩, hb2⟩
      have hsc : ss = canonT ts := by
        rw [sorted_canon (HAP.out.perm HPM.out.symm) hp hso]
        exact canon_same fun k => coefAt_perm k HPM.out
      have hlen : ss.length = (nzT2 done).length := hp.length_eq
      have ho' : OwnT w0.heap.size w2 (.slice a1 (nzT2 done).length c1) ss := by unfold OwnT; rw [hlen]; exact ho
      have hss : SmallT ss := ⟨by rw [hlen]; exact HSD.out.1, fun t ht => HSD.out.2 t (hp.mem_iff.1 ht)⟩
      obtain ⟨a2, c2, e2, hI⟩ := ho'.isTerms hss
      injection e2 with ea en ec
      subst ea ec
      rw [en] at ho'
      have HI := Lib.hid hI
      have HO2 := Lib.hid ho'
      have hb2w : Below w.heap.size w w2 := hB.trans (hb2.mono (by have := hs0; omega))
      have HB2 := Lib.hid hb2w
      have hser : serB ss = r := by rw [hsc, serB_canon (canon_of ts)]; exact HBB.out
      have HSB := Lib.hid hser
      have HSC := Lib.hid hsc
      clear hp hso ho ho' hss hI hb2 hb2w hser hsc hlen
      go_wp2_with fail
      refine (iSeriesIn_is a1 c1 _ ss r w2 HI.out HSB.out).mono ?_
      rintro e w3 ⟨rfl, hb3⟩
      have HB3 := Lib.hid hb3
      clear hb3
      cases r
      · go_wp2
        go_ret2
        exact ⟨⟨_, rfl, ownNil _ _⟩, HB2.out.trans (HB3.out.mono HB2.out.size)⟩
      · go_wp2
        go_ret2
        refine ⟨⟨_, rfl, ?_⟩, HB2.out.trans (HB3.out.mono HB2.out.size)⟩
        rw [show cond true (canonT ts) [] = canonT ts from rfl, ← HSC.out]
        exact (HO2.out.below HB3.out).mono (by omega)
    · intro c s w1 cnt1 hmem hrg1 hlt hg1 hs1 hen
      have hB1 : Below w.heap.size w w1 := hB.grown hg1 hB.size (fun k e => by cases e; exact Nat.le_refl _)
      have ho1 : OwnT w0.heap.size w1 u4 (nzT2 done) := HO.out.kept hg1 (.inr fun e => by have := hlow0.out _ e; omega)
      have hsn := nzT2_snoc done c s
      have HO1 := Lib.hid ho1
      have HM := Lib.hid hmem
      have HR1 := Lib.hid hrg1
      have hl1 := hrg1.cnt
      clear hrg ho1 hmem hrg1 hg1
      by_cases hc0 : c = 0
      · rw [if_pos hc0] at hsn
        have hdc : (c == 0) = true := by simpa using hc0
        clear hc0
        have HSN := Lib.hid hsn
        clear hsn
        go_wp2
        go_roundw
        case rel => exact ⟨_, cnt1, HR1.out, Lib.hid (by rw [HSN.out]; exact HO1.out), by omega, hB1⟩
        case measure => rw [hl1, hcl]; exact hlt
      · rw [if_neg hc0] at hsn
        have hdc : (c == 0) = false := by simpa using hc0
        clear hc0
        have HSN := Lib.hid hsn
        clear hsn
        obtain ⟨N, hN⟩ : ∃ N, (nzT2 done).length = N := ⟨_, rfl⟩
        have hown : w1.ownsRow w0.heap.size TI 2 u4 N (termsV (nzT2 done)) := by rw [← hN]; exact HO1.out
        have HOW := Lib.hid hown
        have hNl : N ≤ 1000 := by have := List.length_filter_le (fun t : Tm => !(t.c == 0)) done; rw [← hN]; unfold nzT2; omega
        have HN := Lib.hid hN
        have hblt := hbl
        have hle01 : w0.heap.size ≤ w1.heap.size := by omega
        have HS1 := Lib.hid hs1
        clear hown hN HO1 hs1
        go_wp2_with (at_builtin; refine wpList_append_lies _ rfl _ _ _ rfl w0.heap.size TI i0 _ 2 24 Try.underlying40 hi hz0 hz1 hz2 rfl (by omega) u4 N (termsV (nzT2 done)) rfl (HOW.out.alloc _) ⟨w1.heap.size, 0, none⟩ 1 1 [.int .i64 c, .string s] rfl rfl (World.news_of_block (cs := #[.int .i64 c, .string s]) (t := TI) (fr := (0, 0)) (heap_alloc_new w1 _)) (by simp [Value.oneCell']) (by omega) (by unfold maxLen; omega) (by omega) (by simp; omega) (w1.heap.size + 1) (by simp) ?_; intro gg cap1 w7 hown7 hgrow7 hat hlt7)
        have hs1 := HS1.out
        have hlow := ownsRow_low HOW.out
        have hbA : Below w1.heap.size w1 (w1.alloc (.cells #[.int .i64 c, .string s] TI)) := (Below.refl _ w1).alloc (Nat.le_refl _) _
        have hR7 : RangeT w7 b w.heap.size ts (done ++ [⟨c, s⟩]) cnt1 := (HR1.out.kept (grown_of_below hbA) (by simp) (by simp)).kept hgrow7 (fun e => by have := hlow _ e.symm; omega) (fun e => by have := hlow _ e.symm; omega)
        have hB7 : Below w.heap.size w w7 := (hB1.trans (hbA.mono hB1.size)).grown hgrow7 (by simp; omega) (fun k e => by have := hlow _ e; omega)
        have hs7 : w0.heap.size ≤ w7.heap.size := by have := hgrow7.size; simp at this; omega
        have HO7 := Lib.hid hown7
        have HR7 := Lib.hid hR7
        have hl7 := hR7.cnt
        clear hown7 hgrow7 hat hlt7 hlow hbA hR7
        go_wp2
        go_roundw
        case rel =>
          refine ⟨_, cnt1, HR7.out, Lib.hid ?_, hs7, hB7⟩
          rw [HSN.out]
          unfold OwnT
          rw [List.length_append, HN.out, termsV_append]
          exact HO7.out
        case measure => rw [hl7, hcl]; exact hlt

end Go.Proofs.Ytdhmicpoigoleab

/- The contracts of the program's 'series' of a word and of 'SeriesOf'. -/

namespace Go.Proofs.Ytdhmicpoigoleab
open Go.RowKit Go.Shelf

attribute [local go_sem] Oper.semAt_some

theorem serW_bnd {us : List Tm} {l : List UInt8} (ha : Apart us) (hl : letL l = true) (h60 : l.length ≤ 60) (hq : ∀ q, coefAt q us = coefAt q (serW l)) : BndT 1000000 us := by
  have hok := serW_ok l hl
  refine apart_bnd ha (fun t ht => ?_) (by omega)
  rw [canon_same hq, canon_id hok.canon] at ht
  exact ((hok.ser h60).2 t ht).2
theorem letS_bnd {c : UInt8} (hc : letB c = true) : BndT 1000000 (letS c) := fun t ht => by have := (letS_ok hc).1 t ht; omega
theorem letS_mono {c : UInt8} (hc : letB c = true) : MonoT (letS c) := fun t ht => ((letS_ok hc).1 t ht).1

set_option maxRecDepth 100000 in
set_option maxHeartbeats 4000000 in
theorem wordSeries_in (n : Nat) (hn : 60 ≤ n) (g k cap : Nat) (L : List UInt8) (w : World) (hk : L.length = k) (hk60 : k ≤ 60) (hL : letL L = true) (hw : IsWord w.heap.size w (.slice (some ⟨g, 0, none⟩) k cap) L) :
    CallsIn Fence.wide n Try.prog 38 #[.slice (some ⟨g, 0, none⟩) k cap] w fun e w' =>
      ∃ b us, e = .returned (.map (some b)) ∧ w.heap.size ≤ b ∧ MapT w' b us ∧ MonoT us ∧ (∀ q, coefAt q us = coefAt q (serW L)) ∧ Below w.heap.size w w' := by
  have H2 := Lib.hid hL
  have HKL := Lib.hid hk
  have HW := Lib.hid hw
  clear hL hk hw
  refine callsIn_of_wp_marks Try.func38 rfl trivial ?_ rfl
  simp only [Try.ntmps38, List.size_toArray, List.length_cons, List.length_nil, Nat.reduceAdd, Nat.reduceSub, Array.replicate_succ, Array.replicate_zero, List.push_toArray, List.append_toArray, List.nil_append, List.cons_append]
  gi_wp2_with fail
  refine ⟨trivial, fun _ => by omega, ?_⟩
  refine (callsIn_wide.2 (oneSeries_any _)).mono ?_
  rintro e w1 ⟨⟨mb, rfl, hlo, hM⟩, hb1⟩
  have hmlt := hM.lt
  have HM := Lib.hid hM
  have HB1 := Lib.hid hb1
  have hs1 := hb1.size
  clear hM hb1
  gi_wp2_with fail
  refine ⟨trivial, fun _ => by omega, ?_⟩
  refine (callsIn_wide.2 (letters_fwd _ _ _ 1 _ (by decide))).mono ?_
  rintro e w3 ⟨rfl, rfl⟩
  have hbx := (Boxed.new w1 SerT (.map (some mb))).alloc (.cells #[.slice (some ⟨g, 0, none⟩) k cap] WT)
  have hbi := Boxed.new (w1.alloc (.cells #[.map (some mb)] SerT)) WT (.slice (some ⟨g, 0, none⟩) k cap)
  have hBv : Below w1.heap.size w1 ((w1.alloc (.cells #[.map (some mb)] SerT)).alloc (.cells #[.slice (some ⟨g, 0, none⟩) k cap] WT)) := ((Below.refl _ w1).alloc (Nat.le_refl _) _).alloc (by simp) _
  have hsz : ((w1.alloc (.cells #[.map (some mb)] SerT)).alloc (.cells #[.slice (some ⟨g, 0, none⟩) k cap] WT)).heap.size = w1.heap.size + 2 := by simp
  simp only [World.size_alloc] at hbx hbi ⊢
  generalize ((w1.alloc (.cells #[.map (some mb)] SerT)).alloc (.cells #[.slice (some ⟨g, 0, none⟩) k cap] WT)) = V at hbx hbi hBv hsz ⊢
  have hBV : Below w.heap.size w V := HB1.out.trans (hBv.mono hs1)
  have HWV := Lib.hid (HW.out.below hBV)
  have HMV := Lib.hid (HM.out.below hBv)
  have HBX := Lib.hid hbx
  have HBI := Lib.hid hbi
  have HBV := Lib.hid hBV
  clear hbx hbi hBV hBv
  gi_wp2_with fail
  refine range_values (by omega) (Bs := w1.heap.size + 1) rfl (n₀ := w.heap.size) (L := L) (by omega) HBI.out.cell HWV.out (by omega)
    (fun pre X => (Boxed X w1.heap.size SerT (.map (some mb)) ∧ ∃ us, MapT X mb us ∧ MonoT us ∧ ∀ q, coefAt q us = coefAt q (serW pre)) ∧ Below w.heap.size w X)
    (OwnFrom.and (OwnFrom.and (Own.from (fun s A B row hs hg hr => boxed_own w1.heap.size _ (fun _ : Unit => .map (some mb)) () A B row hs hg hr) _)
      (fun s A B row ⟨us, h1, h2⟩ hg hr => ⟨us, h1.kept hg (fun e => by have := (hr mb e.symm).1; omega), h2⟩)) (ownFrom_below (by omega) (by omega)))
    ⟨⟨HBX.out, _, HMV.out, fun t ht => by rw [List.mem_singleton.1 ht]; decide, fun _ => rfl⟩, HBV.out⟩
    (fun x => { tmps := #[.slice (some ⟨g, 0, none⟩) k cap, undef, .map none, .pointer (some ⟨w1.heap.size, 0, none⟩), .int .u8 (x.toNat : Int), .map (some mb), .slice (some ⟨g, 0, none⟩) k cap, .func (.func FV) #[] #[.pointer (some ⟨w1.heap.size + 1, 0, none⟩)], .int .u8 (x.toNat : Int), undef, undef, undef, undef, undef], defers := [] }) ?assign ?body ?done
  case assign =>
    intro l x W K hK
    gi_wp2
    exact hK
  case body =>
    rintro l pre x W ⟨⟨hbx, us, hT, mU, hq⟩, hB⟩ hpre
    have hlet : letB x = true := List.all_eq_true.1 H2.out x (prefix_mem hpre)
    have hlp : letL pre = true := letL_of_mem _ _ H2.out (fun c hc => hpre.subset (by simp [hc]))
    have hplen := prefix_len hpre
    rw [HKL.out] at hplen
    have hbd := serW_bnd hT.apart hlp (by omega) hq
    have hstep : ∀ q, coefAt q (pairsS us (letS x)) = coefAt q (serW (pre ++ [x])) := fun q => by rw [serW_snoc, (canonT_spec _).2, pairs_same1 hq]
    have HLS : Hid (∀ X, Calls Try.prog 59 #[.int .u8 (x.toNat : Int)] X fun e w' => ∃ b, e = .returned (.map (some b)) ∧ X.heap.size ≤ b ∧ MapT w' b (letS x) ∧ Below X.heap.size X w') := Lib.hid fun X => letterSeries_any x X hlet
    have HTM : Hid (∀ (b2 : Nat) (X : World), mb ≠ b2 → MapT X mb us → MapT X b2 (letS x) → Calls Try.prog 58 #[.map (some mb), .map (some b2)] X fun e w' => e = .returned (.tuple #[]) ∧ (∃ ts, MapT w' mb ts ∧ MonoT ts ∧ ∀ q, coefAt q ts = coefAt q (serW (pre ++ [x]))) ∧ X.grownBy w' (some mb)) :=
      Lib.hid fun b2 X hne h1 h2 => (times_any mb b2 us (letS x) X hne h1 h2 mU (letS_mono hlet) hbd (letS_bnd hlet)).mono fun e w' ⟨e1, ⟨ts, h1, h2, h3⟩, h4⟩ => ⟨e1, ⟨ts, h1, h2, fun q => by rw [h3, hstep]⟩, h4⟩
    have hmW := hT.lt
    have HT := Lib.hid hT
    have HBX2 := Lib.hid hbx
    have HB := Lib.hid hB
    have hws := hB.size
    have hc3 := hbx.cell
    have hbl := hbx.lt
    clear hT mU hq hbd hstep hlet hlp hbx hB hpre
    gi_wp2
    refine wpIn_region_any (by kernel_rfl) ?_
    change wpAnyIn _ _ _ _ _ _ _ _ _ (World.drew _)
    obtain ⟨S2, hS2⟩ : ∃ S2 : Value → World → Prop, S2 = fun v X => ∃ b2, v = .map (some b2) ∧ W.heap.size ≤ b2 ∧ MapT X b2 (letS x) ∧ Below W.heap.size W X := ⟨_, rfl⟩
    obtain ⟨S3, hS3⟩ : ∃ S3 : World → Prop, S3 = fun X => (∃ ts, MapT X mb ts ∧ MonoT ts ∧ ∀ q, coefAt q ts = coefAt q (serW (pre ++ [x]))) ∧ W.grownBy X (some mb) := ⟨_, rfl⟩
    refine wpAnyIn_inv (fun listed a X => ∃ (b0 b1 b2 b3 : Bool) (t9 t10 t11 t12 : Value), listed = #[b0, b1, b2, b3] ∧ a = { tmps := #[.slice (some ⟨g, 0, none⟩) k cap, undef, .map none, .pointer (some ⟨w1.heap.size, 0, none⟩), .int .u8 (x.toNat : Int), .map (some mb), .slice (some ⟨g, 0, none⟩) k cap, .func (.func FV) #[] #[.pointer (some ⟨w1.heap.size + 1, 0, none⟩)], .int .u8 (x.toNat : Int), t9, t10, t11, t12, undef], defers := [] } ∧
      ((b0 = true → t9 = .map (some mb)) ∧ (b1 = true → t10 = .int .u8 (x.toNat : Int))) ∧
      ((b2 = true → b1 = true) ∧ (b3 = true → b2 = true ∧ b0 = true)) ∧
      ((b2 = false → X = W.drew) ∧ (b2 = true → b3 = false → S2 t11 X) ∧ (b3 = true → S3 X))) ?step ?rdone _ _ _ _ (by decide) ?init
    case init =>
      exact ⟨false, false, false, false, undef, undef, undef, undef, rfl, rfl, by simp, by simp, by simp⟩
    case step =>
      rintro listed a X i ⟨b0, b1, b2, b3, t9, t10, t11, t12, rfl, rfl, ⟨v0, v1⟩, ⟨c2, c3⟩, ⟨x0, x1, x2⟩⟩ hun hdep hi
      have hi' : i = 0 ∨ i = 1 ∨ i = 2 ∨ i = 3 := by
        have : i < 4 := hi
        omega
      rcases hi' with rfl | rfl | rfl | rfl
      · -- the map is loaded
        obtain rfl : b0 = false := hun
        have hx : X.cell? ⟨w1.heap.size, 0, none⟩ = some (.map (some mb)) := by
          cases b2 with
          | false => rw [x0 rfl]; exact hc3
          | true =>
            cases b3 with
            | false =>
              have h := x1 rfl rfl
              rw [hS2] at h
              obtain ⟨_, _, _, _, hb⟩ := h
              exact (hb.cell (p := ⟨w1.heap.size, 0, none⟩) hbl).trans hc3
            | true => have := (c3 rfl).2; cases this
        refine wpOpIn_step rfl (fun K' hK => ?_)
        go_simp
        refine hK _ _ ⟨true, _, _, _, _, _, _, _, rfl, rfl, ⟨fun _ => rfl, v1⟩, ⟨c2, fun h => ⟨(c3 h).1, rfl⟩⟩, ⟨x0, x1, x2⟩⟩
      · -- the letter
        obtain rfl : b1 = false := hun
        refine wpOpIn_step rfl (fun K' hK => ?_)
        go_simp
        refine hK _ _ ⟨_, true, _, _, _, _, _, _, rfl, rfl, ⟨v0, fun _ => rfl⟩, ⟨fun _ => rfl, c3⟩, ⟨x0, x1, x2⟩⟩
      · -- its series
        obtain rfl : b2 = false := hun
        obtain rfl : b1 = true := hdep _ rfl ⟨1, .data⟩ (by simp) rfl
        obtain rfl := v1 rfl
        obtain rfl := x0 rfl
        have q3 : b3 = false := by
          cases b3 with
          | false => rfl
          | true => have := (c3 rfl).1; cases this
        subst q3
        refine wpOpIn_step rfl (fun K' hK => ?_)
        go_simp
        refine ⟨trivial, fun _ => by omega, ?_⟩
        refine (CallsIn.inRound l (callsIn_wide.2 (HLS.out _))).mono ?_
        rintro e X' ⟨b, rfl, hb, hm, hbe⟩
        refine hK _ _ ⟨_, _, true, _, _, _, _, _, rfl, rfl, ⟨v0, fun _ => rfl⟩, ⟨fun _ => rfl, (fun h => nomatch h)⟩, ⟨(fun h => nomatch h), fun _ _ => ?_, (fun h => nomatch h)⟩⟩
        rw [hS2]
        exact ⟨b, rfl, hb, hm, (Below.refl _ W).drew.trans hbe⟩
      · -- the product
        obtain rfl : b3 = false := hun
        obtain rfl : b0 = true := hdep _ rfl ⟨0, .data⟩ (by simp) rfl
        obtain rfl : b2 = true := hdep _ rfl ⟨2, .data⟩ (by simp) rfl
        obtain rfl := v0 rfl
        have h := x1 rfl rfl
        rw [hS2] at h
        obtain ⟨bb, rfl, hbb, hm, hbe⟩ := h
        refine wpOpIn_step rfl (fun K' hK => ?_)
        go_simp
        refine ⟨trivial, fun _ => by omega, ?_⟩
        refine (CallsIn.inRound l (callsIn_wide.2 (HTM.out bb X (by omega) (HT.out.below hbe) hm))).mono ?_
        rintro e X' ⟨rfl, hts, hgr⟩
        refine hK _ _ ⟨_, _, _, true, _, _, _, _, rfl, rfl, ⟨fun _ => rfl, (by first | exact v1 | exact fun _ => rfl)⟩, ⟨c2, fun _ => ⟨rfl, rfl⟩⟩, ⟨(fun h => nomatch h), (fun _ h => nomatch h), fun _ => ?_⟩⟩
        rw [hS3]
        exact ⟨hts, ((grown_of_below hbe).but (some mb)).andThen hgr (fun j ej => by cases ej; exact Or.inr rfl)⟩
    case rdone =>
      rintro listed a X ⟨b0, b1, b2, b3, t9, t10, t11, t12, rfl, rfl, -, -, ⟨-, -, x2⟩⟩ hall
      have q0 : b0 = true := hall 0 _ rfl (fun e he => by simp at he)
      have q1 : b1 = true := hall 1 _ rfl (fun e he => by simp at he)
      have q2 : b2 = true := hall 2 _ rfl (by
        intro e he _
        simp at he
        rcases he with rfl
        all_goals first | exact q0 | exact q1)
      have q3 : b3 = true := hall 3 _ rfl (by
        intro e he _
        simp at he
        rcases he with rfl | rfl | rfl
        all_goals first | exact q0 | exact q1 | exact q2)
      have h := x2 q3
      rw [hS3] at h
      obtain ⟨hts, hgr⟩ := h
      have hbel : Below w.heap.size W X := (Below.refl _ W).grown hgr hws (fun j ej => by cases ej; omega)
      have hkf : KeepsFrom V.heap.size W X := KeepsFrom.of_grownBy hgr (fun j ej => by cases ej; omega)
      gi_wp2
      exact ⟨hkf, ⟨hbel, hkf⟩, ⟨HBX2.out.kept hgr (fun e => by cases e; omega), hts⟩, HB.out.trans hbel⟩
  case done =>
    rintro D W hD ⟨⟨hbx, us, hT, mU, hq⟩, hB⟩ hK
    have hDlt : D < W.heap.size := (Array.getElem?_eq_some_iff.1 hK).1
    have hc3 := hbx.cell
    have hws := hB.size
    have HK := Lib.hid hK
    have HB := Lib.hid hB
    have HF : Hid (MapT (W.putObj D (.deferred none)) mb us ∧ MonoT us ∧ ∀ q, coefAt q us = coefAt q (serW L)) := Lib.hid ⟨hT.kept (grownBy_putObj' W D (.deferred none)) (fun e => by cases e; omega), mU, hq⟩
    clear hK hB hT mU hq
    gi_wp2
    refine ⟨by simp, .inl ⟨_, _, rfl, run_takeDeferred HK.out, ?_⟩⟩
    refine ⟨.map (some mb), by simp [results, Try.f38, go_sem], mb, us, rfl, hlo, HF.out.1, HF.out.2.1, HF.out.2.2, ?_⟩
    exact HB.out.trans (belowK_b (w := w) (Nat.le_refl _) W D _ _ (by omega) HK.out rfl rfl)

/-! ### SeriesOf -/
set_option maxHeartbeats 2000000 in
theorem iSeriesOf_any (s : ByteArray) (b : Bool) (w : World) (hs : s.size ≤ maxLen) (hb : wordB s.data.toList = b) :
    Calls Try.prog 21 #[.string s] w (ITold w b (serW s.data.toList)) := by
  cases b with
  | false =>
    have HB := Lib.hid hb
    clear hb
    go_enter Try.func21, Try.ntmps21
    go_wp2_with fail
    refine (wordOf_no s _ hs HB.out).mono ?_
    rintro e w1 ⟨rfl, hb1⟩
    go_wp2
    go_ret2
    exact ⟨⟨_, rfl, ownNil _ _⟩, hb1⟩
  | true =>
    have HB := Lib.hid hb
    obtain ⟨h1, h2, _⟩ := (wordB_iff _).1 hb
    have hs60 : s.size ≤ 60 := by simpa using h1
    have HL := Lib.hid h2
    have HTW := Lib.hid (serW_tw hb rfl)
    have HOK := Lib.hid (serW_ok _ h2)
    clear hb h1 h2
    go_enter Try.func21, Try.ntmps21
    go_wp2_with fail
    refine (wordOf_yes s _ HB.out).mono ?_
    rintro e w1 ⟨g, cap, rfl, hown, hb1⟩
    have HW := Lib.hid (isWord_of_owns (n₀ := w1.heap.size) (l := s.data.toList) (by simp) (by omega) hown (Nat.le_refl _))
    have HB1 := Lib.hid hb1
    have hs1 := hb1.size
    clear hown hb1
    go_wp2_with fail
    refine ((callsIn_wide (n := 60)).1 (wordSeries_in 60 (by omega) g s.size cap s.data.toList w1 (by simp) hs60 HL.out HW.out)).mono ?_
    rintro e w2 ⟨mb, us, rfl, hlo, hT, mU, hq, hb2⟩
    have hlu := apart_len341 hT.apart mU
    have HC := Lib.hid (show canonT us = serW s.data.toList by rw [canon_same hq, canon_id HOK.out.canon])
    have HB2 := Lib.hid (HB1.out.trans (hb2.mono hs1))
    have hs2 := HB2.out.size
    have HT := Lib.hid hT
    clear hT mU hq hb2
    go_wp2_with fail
    refine (seriesTold_any mb us true _ HT.out (by omega) (by rw [HC.out]; exact HTW.out)).mono ?_
    rintro e w3 ⟨⟨v, rfl, ho⟩, hb3⟩
    rw [HC.out] at ho
    have HO := Lib.hid ho
    have HB3 := Lib.hid (HB2.out.trans (hb3.mono hs2))
    clear ho hb3
    go_wp2
    go_ret2
    exact ⟨⟨_, rfl, HO.out.mono hs2⟩, HB3.out⟩

/-! ### As a law wants them -/
theorem iSeriesOf_law {s : ByteArray} {b : Bool} {w : World} (hs : s.size ≤ maxLen) (hb : wordB s.data.toList = b) :
    Calls Try.prog 21 #[.string s] w (ITold w b (serW s.data.toList)) := iSeriesOf_any s b w hs hb

end Go.Proofs.Ytdhmicpoigoleab

/- The contracts of the program's 'SeriesCoef' and 'SeriesDepth'. -/

namespace Go.Proofs.Ytdhmicpoigoleab
open Go.RowKit Go.Shelf

set_option maxRecDepth 100000 in
set_option maxHeartbeats 4000000 in
theorem iSeriesCoef_any (s m : ByteArray) (b1 b2 : Bool) (z : Int) (b : Bool) (w : World) (hs : s.size ≤ maxLen) (hms : m.size ≤ maxLen) (h1 : wordB s.data.toList = b1) (h2 : monoB m = b2) (hz : cond (b1 && b2) (coefAt m (serW s.data.toList)) 0 = z) (hb : (b1 && b2) = b) :
    Calls Try.prog 13 #[.string s, .string m] w fun e w' => e = .returned (.tuple #[.int .i64 z, .bool b]) ∧ Below w.heap.size w w' := by
  have H2 := Lib.hid h2
  have HZ := Lib.hid hz
  have HB := Lib.hid hb
  have HS := Lib.hid (iSeriesOf_any s b1 w hs h1)
  have H1 := Lib.hid h1
  obtain ⟨ts, hts⟩ : ∃ ts, cond b1 (serW s.data.toList) [] = ts := ⟨_, rfl⟩
  obtain ⟨hsm, hlen⟩ := told_smallS (serW_tw h1) hts
  obtain ⟨n, hn⟩ : ∃ n, ts.length = n := ⟨_, rfl⟩
  have HTS := Lib.hid hts
  have HN := Lib.hid hn
  have HSM := Lib.hid hsm
  rw [hn] at hlen
  clear h1 h2 hz hb hts hsm hn
  go_enter Try.func13, Try.ntmps13
  go_wp2_with fail
  refine HS.out.mono ?_
  rintro e w1 ⟨⟨v1, rfl, ho1⟩, hb1⟩
  cases b1 with
  | false =>
    obtain rfl : b = false := HB.out.symm
    obtain rfl : z = 0 := HZ.out.symm
    clear ho1
    go_wp2
    go_ret2
    exact ⟨rfl, hb1⟩
  | true =>
    have ho1 : OwnT w.heap.size w1 v1 (serW s.data.toList) := ho1
    have hts : serW s.data.toList = ts := HTS.out
    rw [hts] at ho1
    obtain ⟨a1, c1, rfl, hI1⟩ := ho1.isTerms HSM.out
    rw [HN.out] at hI1 ⊢
    have HI := Lib.hid hI1
    have HCa : Hid (Canon ts) := Lib.hid (by
      obtain ⟨p1, p2, _⟩ := (wordB_iff _).1 H1.out
      rw [← hts]; exact (serW_ok _ p2).canon)
    have HT := Lib.hid hts
    have HB1 := Lib.hid hb1
    clear ho1 hI1 hts hb1
    go_wp2_with fail
    refine (known4_is m b2 _ hms H2.out).mono ?_
    rintro e w2 ⟨rfl, hb2⟩
    have HB2 := Lib.hid (HB1.out.trans (hb2.mono HB1.out.size))
    have HI2 := Lib.hid (HI.out.below hb2)
    clear hb2
    cases b2 with
    | false =>
      obtain rfl : b = false := HB.out.symm
      obtain rfl : z = 0 := HZ.out.symm
      go_wp2
      go_ret2
      exact ⟨rfl, HB2.out⟩
    | true =>
      obtain rfl : b = true := HB.out.symm
      have HZ2 : Hid (coefAt m ts = z) := Lib.hid (by rw [← HT.out]; exact HZ.out)
      go_wp2
      go_loopw [24] (fun i wr => ∃ k : Nat, k ≤ n ∧ i = .int .i64 k ∧ Hid (∀ j (h : j < ts.length), j < k → ts[j].s ≠ m) ∧ Below w2.heap.size w2 wr) (fun i _ => n - (intOf i).toNat)
      case atStart => exact ⟨0, Nat.zero_le _, rfl, Lib.hid (fun j _ h => absurd h (Nat.not_lt_zero _)), Below.refl _ _⟩
      case round =>
        obtain ⟨k, hk, rfl, HJ, hBr⟩ := hrel
        have hB2r := HB2.out.trans (hBr.mono HB2.out.size)
        by_cases hlt : k < n
        · have hkx : k < ts.length := by rw [HN.out]; exact hlt
          obtain ⟨x, rfl, hx⟩ := HI2.out.at_ (by omega)
          obtain ⟨t, ht⟩ : ∃ t, ts[k] = t := ⟨_, rfl⟩
          have hc := (hx.below hBr).2 k hkx
          rw [ht, addr_next] at hc
          obtain ⟨c0, d1⟩ := hc
          have HBR := Lib.hid (hBr.alloc hBr.size (.cells #[.int .i64 t.c, .string t.s] TI))
          have HBW := Lib.hid (hB2r.alloc hB2r.size (.cells #[.int .i64 t.c, .string t.s] TI))
          by_cases hm : t.s = m
          · have hq : (t.s.toList == m.toList) = true := by rw [bytes_beq, hm]; simp
            have hret : t.c = z := by rw [← HZ2.out, ← hm]; exact (coefAt_get HCa.out (by rw [← ht]; exact List.getElem_mem hkx)).symm
            subst hret
            clear hm ht hx hBr hB2r
            go_wp2
            go_ret2
            exact ⟨rfl, HBW.out⟩
          · have hq : (t.s.toList == m.toList) = false := by rw [bytes_beq]; exact decide_eq_false fun e => hm (bytes_ext e)
            have HNe := Lib.hid hm
            have HT2 := Lib.hid ht
            clear hm ht hx hBr hB2r
            go_wp2
            go_roundw
            case rel =>
              refine ⟨k + 1, by omega, by go_num, Lib.hid fun j hj hjk => ?_, HBR.out⟩
              by_cases e : j = k
              · subst e; rw [HT2.out]; exact HNe.out
              · exact HJ.out j hj (by omega)
            case measure => simp [intOf]; omega
        · obtain rfl : k = n := by omega
          have hz0 : z = 0 := by
            rw [← HZ2.out]
            refine coefAt_none fun t ht => ?_
            obtain ⟨j, hj, rfl⟩ := List.getElem_of_mem ht
            exact HJ.out j hj (by rw [← HN.out]; exact hj)
          subst hz0
          go_wp2
          go_ret2
          exact ⟨rfl, hB2r⟩

set_option maxRecDepth 100000 in
set_option maxHeartbeats 4000000 in
theorem iSeriesDepth_any (s : ByteArray) (b : Bool) (z : Nat) (w : World) (hs : s.size ≤ maxLen) (h1 : wordB s.data.toList = b) (hz : cond b (depthT (serW s.data.toList)) 0 = z) :
    Calls Try.prog 8 #[.string s] w fun e w' => e = .returned (.tuple #[.int .i64 z, .bool b]) ∧ Below w.heap.size w w' := by
  have HZ := Lib.hid hz
  have H1 := Lib.hid h1
  have HS := Lib.hid (iSeriesOf_any s b w hs h1)
  obtain ⟨ts, hts⟩ : ∃ ts, cond b (serW s.data.toList) [] = ts := ⟨_, rfl⟩
  obtain ⟨hsm, hlen⟩ := told_smallS (serW_tw h1) hts
  obtain ⟨n, hn⟩ : ∃ n, ts.length = n := ⟨_, rfl⟩
  have HTS := Lib.hid hts
  have HN := Lib.hid hn
  have HSM := Lib.hid hsm
  rw [hn] at hlen
  clear h1 hz hts hsm hn
  go_enter Try.func8, Try.ntmps8
  go_wp2_with fail
  refine HS.out.mono ?_
  rintro e w1 ⟨⟨v1, rfl, ho1⟩, hb1⟩
  cases b with
  | false =>
    obtain rfl : z = 0 := HZ.out.symm
    clear ho1
    go_wp2
    go_ret2
    exact ⟨rfl, hb1⟩
  | true =>
    have ho1 : OwnT w.heap.size w1 v1 (serW s.data.toList) := ho1
    have hts : serW s.data.toList = ts := HTS.out
    rw [hts] at ho1
    obtain ⟨a1, c1, rfl, hI1⟩ := ho1.isTerms HSM.out
    rw [HN.out] at hI1 ⊢
    have HI := Lib.hid hI1
    have HZ2 : Hid (depthT ts = z) := Lib.hid (by rw [← hts]; exact HZ.out)
    have hl := (wordB_iff _).1 H1.out
    have hcan : Canon ts := by rw [← hts]; exact (serW_ok _ hl.2.1).canon
    have hno : coefAt noS ts = 1 := by rw [← hts]; exact serW_no _ hl.2.1
    have hpos := first_pos hcan hno
    rw [HN.out] at hpos
    have HB1 := Lib.hid hb1
    by_cases h1n : n = 1
    · obtain rfl : z = 0 := by rw [← HZ2.out]; exact depth_one hcan hno (by rw [HN.out]; exact h1n)
      have hd : decide ((n : Int) = 1) = true := decide_eq_true (by omega)
      clear ho1 hI1 hts hb1 hcan hno hl
      subst h1n
      go_wp2
      go_ret2
      exact ⟨rfl, HB1.out⟩
    · have h2n : 1 < ts.length := by rw [HN.out]; omega
      have hzz : ts[1].s.size = z := by rw [← HZ2.out, depth_two hcan hno h2n]
      obtain ⟨x, rfl, hx⟩ := HI.out.at_ (by omega)
      obtain ⟨t, ht⟩ : ∃ t, ts[1] = t := ⟨_, rfl⟩
      have hc := hx.2 1 h2n
      rw [ht, addr_next] at hc
      rw [ht] at hzz
      have d1 : w1.cell? ⟨x.block, x.off + 2 + 1, none⟩ = some (.string t.s) := hc.2
      clear hc
      have hd : decide ((n : Int) = 1) = false := decide_eq_false (by omega)
      have hn1 : ¬ (n : Int) = 1 := by omega
      have hln : 1 < n := by omega
      have hlni : (1 : Int) < (n : Int) := by omega
      subst hzz
      clear ho1 hI1 hts hb1 hcan hno hl ht hx
      go_wp2
      go_ret2
      exact ⟨rfl, HB1.out⟩

end Go.Proofs.Ytdhmicpoigoleab

/- The contracts of the program's 'fitsLyndon', 'LyndonIn', 'split' and 'LyndonSplit'. -/

namespace Go.Proofs.Ytdhmicpoigoleab
open Go.RowKit Go.Shelf

set_option maxRecDepth 100000 in
set_option maxHeartbeats 1000000 in
theorem fits_is (s : ByteArray) (b : Bool) (w : World) (hs : s.size ≤ maxLen) (hb : text12 s = b) :
    Calls Try.prog 42 #[.string s] w fun e w' => e = .returned (.bool b) ∧ Below w.heap.size w w' := by
  unfold maxLen at hs
  unfold text12 at hb
  by_cases h : s.size ≤ 12
  · rw [decide_eq_true h, Bool.and_true] at hb
    have HB := Lib.hid hb
    have hi : (s.size : Int) ≤ 12 := by omega
    clear hb
    go_enter Try.func42, Try.ntmps42
    go_wp2_with fail
    refine (gens_any s b _ h HB.out).mono ?_
    rintro e w1 ⟨rfl, hb1⟩
    go_wp2
    go_ret
    exact ⟨rfl, hb1⟩
  · rw [decide_eq_false h, Bool.and_false] at hb
    subst hb
    have hi : ¬ (s.size : Int) ≤ 12 := by omega
    go_enter Try.func42, Try.ntmps42
    go_wp2
    go_ret
    exact ⟨rfl, Below.refl _ w⟩
theorem text12_size {s : ByteArray} (h : text12 s = true) : s.size ≤ 12 := by
  unfold text12 at h; simp only [Bool.and_eq_true, decide_eq_true_eq] at h; exact h.2
/-- A text is empty or not: how the walk asks for it. -/
theorem text_none {s : ByteArray} (h : s.size = 0) : s.toList = [] := by
  rw [ByteArray.toList_eq]
  have h2 : s.data.toList.length = s.size := by simp
  exact List.length_eq_zero_iff.1 (by omega)
theorem text_some {s : ByteArray} (h : s.size ≠ 0) : ¬ s.toList = [] := fun e => by
  rw [ByteArray.toList_eq] at e
  have h2 : s.data.toList.length = s.size := by simp
  rw [e] at h2
  exact h h2.symm

set_option maxRecDepth 100000 in
set_option maxHeartbeats 1000000 in
theorem iLyndonIn_is (s : ByteArray) (b : Bool) (w : World) (hs : s.size ≤ maxLen) (hb : lynB s = b) :
    Calls Try.prog 23 #[.string s] w fun e w' => e = .returned (.bool b) ∧ Below w.heap.size w w' := by
  have hln : s.data.toList.length = s.size := by simp
  by_cases h0 : s.size = 0
  · have hbf : b = false := by
      rw [← hb]; unfold lynB lynL
      rw [decide_eq_false (by omega), Bool.false_and, Bool.and_false]
    subst hbf
    have h1 := text_none h0
    have h1b : (s.toList == ([] : List UInt8)) = true := by rw [h1]; rfl
    clear hb hln
    go_enter Try.func23, Try.ntmps23
    go_wp2
    go_ret
    exact ⟨rfl, Below.refl _ w⟩
  · have h1 := text_some h0
    have h1b : (s.toList == ([] : List UInt8)) = false := by simpa using h1
    obtain ⟨t, ht⟩ : ∃ t, text12 s = t := ⟨_, rfl⟩
    obtain ⟨l, hl⟩ : ∃ l, lynL s.data.toList = l := ⟨_, rfl⟩
    have hbb : (t && l) = b := by rw [← hb, ← ht, ← hl]; rfl
    have HT := Lib.hid ht
    have HL := Lib.hid hl
    have hpos : 0 < s.size := by omega
    clear hb ht hl hln
    cases t with
    | false =>
      obtain rfl : false = b := hbb
      go_enter Try.func23, Try.ntmps23
      go_wp2_with fail
      refine (fits_is s false _ hs HT.out).mono ?_
      rintro e w1 ⟨rfl, hb1⟩
      go_wp2
      go_ret
      exact ⟨rfl, hb1⟩
    | true =>
      obtain rfl : l = b := hbb
      go_enter Try.func23, Try.ntmps23
      go_wp2_with fail
      refine (fits_is s true _ hs HT.out).mono ?_
      rintro e w1 ⟨rfl, hb1⟩
      go_wp2_with fail
      refine (isLyn_L s l _ hs hpos HL.out).mono ?_
      rintro e w2 ⟨rfl, rfl⟩
      go_wp2
      go_ret
      exact ⟨rfl, hb1⟩

set_option maxRecDepth 100000 in
set_option maxHeartbeats 4000000 in
theorem iSplit_any (s : ByteArray) (w : World) (h2 : 2 ≤ s.size) (h12 : s.size ≤ 12) :
    Calls Try.prog 44 #[.string s] w fun e w' => e = .returned (.tuple #[.string (s.extract 0 (splitI s.data.toList)), .string (s.extract (splitI s.data.toList) s.size)]) ∧ Below w.heap.size w w' := by
  have hln : s.data.toList.length = s.size := by simp
  have HLn := Lib.hid hln
  have hmx : Try.prog.follows .mixedOrders = true := by kernel_rfl
  clear hln
  go_enter Try.func44, Try.ntmps44
  go_wp2
  go_loopw [4] (fun i wr => ∃ k : Nat, 1 ≤ k ∧ k < s.size ∧ i = .int .i64 k ∧ Hid (∀ j, 1 ≤ j → j < k → lynL (s.data.toList.drop j) = false) ∧ w = wr) (fun i _ => s.size - (intOf i).toNat)
  case atStart => exact ⟨1, Nat.le_refl _, by omega, rfl, Lib.hid (fun j h1 h2 => by omega), rfl⟩
  case round =>
    obtain ⟨k, hk1, hk, rfl, HJ, rfl⟩ := hrel
    have hle : (k : Int) ≤ s.size := by omega
    have hge : 0 ≤ (k : Int) := by omega
    obtain ⟨x, hx⟩ : ∃ x, s.extract k s.size = x := ⟨_, rfl⟩
    have hxl : x.data.toList = s.data.toList.drop k := by rw [← hx, ← extract_drop, ByteArray.toList_eq]
    have hxz : x.size = s.size - k := by
      have : x.data.toList.length = x.size := by simp
      rw [hxl, List.length_drop, HLn.out] at this
      omega
    have hxs : x.size ≤ maxLen := by unfold maxLen; omega
    cases hl : lynL (s.data.toList.drop k) with
    | true =>
      have HSp : Hid (splitI s.data.toList = k) := Lib.hid (splitF_at hk1 (by rw [HLn.out]; omega) HJ.out hl)
      have HL : Hid (lynL x.data.toList = true) := Lib.hid (by rw [hxl]; exact hl)
      have HX := Lib.hid hx
      clear hl hxl
      go_wp2_with fail
      refine (isLyn_L x true _ hxs (by omega) HL.out).mono ?_
      rintro e w1 ⟨rfl, rfl⟩
      clear hxz
      go_wp2
      refine wp_region_below hmx (by kernel_rfl) ?_
      repeat (((with_reducible refine wpQuiet_step (fun K hK => ?_)); go_simp; first | ((with_reducible refine hK _ ?_); clear hK K) | (refine (if_neg (by decide)).mpr ?_; (with_reducible refine hK _ ?_); clear hK K)))
      with_reducible refine wpQuiet_nil ?_
      rintro W ⟨⟨W, hW⟩, rfl⟩
      go_wp2
      go_ret2
      exact ⟨by rw [HSp.out, HX.out]; rfl, hW⟩
    | false =>
      have hk2 : k + 1 < s.size := by
        by_cases h : k + 1 = s.size
        · have := lyn_one (s.data.toList.drop k) (by rw [List.length_drop, HLn.out]; omega)
          rw [this] at hl; cases hl
        · omega
      have HL : Hid (lynL x.data.toList = false) := Lib.hid (by rw [hxl]; exact hl)
      have HLk := Lib.hid hl
      clear hl hxl
      go_wp2_with fail
      refine (isLyn_L x false _ hxs (by omega) HL.out).mono ?_
      rintro e w1 ⟨rfl, rfl⟩
      clear hxz
      go_wp2
      go_roundw
      case rel =>
        refine ⟨k + 1, by omega, hk2, by go_num, Lib.hid fun j h1 h2 => ?_, by trivial⟩
        by_cases e : j = k
        · subst e; exact HLk.out
        · exact HJ.out j h1 (by omega)
      case measure => simp [intOf]; omega

end Go.Proofs.Ytdhmicpoigoleab

/- The contracts of the model's 'LyndonTurn' and 'LyndonSplit'. -/

namespace Go.Proofs.Ytdhmicpoigoleab
open Go.RowKit

/-- A text with its first i letters put behind; the least one of the first k. -/
def rotB (s : ByteArray) (i : Nat) : ByteArray := s.extract i s.size ++ s.extract 0 i
def turnN (s : ByteArray) : Nat → ByteArray
  | 0 => s
  | k + 1 => if Op.bytesLess (rotB s (k + 1)).toList (turnN s k).toList then rotB s (k + 1) else turnN s k
/-- What LyndonTurn answers. -/
def turn12 (s : ByteArray) : Bool := text12 s && !(decide (s.size = 0))
theorem rotB_size (s : ByteArray) (i : Nat) (h : i ≤ s.size) : (rotB s i).size = s.size := by
  unfold rotB; rw [ByteArray.size_append, ByteArray.size_extract, ByteArray.size_extract]; omega
theorem turnN_size (s : ByteArray) : ∀ k, k ≤ s.size → (turnN s k).size = s.size
  | 0, _ => rfl
  | k + 1, h => by
    rw [turnN]
    split
    · exact rotB_size s (k + 1) h
    · exact turnN_size s k (by omega)

end Go.Proofs.Ytdhmicpoigoleab

/- The contract of the program's 'LyndonTurn'. -/

namespace Go.Proofs.Ytdhmicpoigoleab
open Go.RowKit Go.Shelf

theorem rot_start (s : ByteArray) : rotB s 0 = s := by
  unfold rotB
  refine bytes_ext ?_
  rw [ByteArray.data_append, Array.toList_append, ← ByteArray.toList_eq (s.extract 0 s.size), extract_drop, extract_take, bstr_toList]
  simp
/-- The least one of the first k turns. -/
def turnK (s : ByteArray) : Nat → ByteArray
  | 0 => s
  | k + 1 => turnN s k
theorem turnK_step (s : ByteArray) (k : Nat) : turnK s (k + 1) = if Op.bytesLess (rotB s k).toList (turnK s k).toList then rotB s k else turnK s k := by
  cases k with
  | zero => rw [rot_start]; unfold turnK; rw [bl_irrefl]; rfl
  | succ k => rfl

theorem min_le (t q : ByteArray) : (if (Op.bytesLess t.toList q.toList || t.toList == q.toList) = true then t else q) = if Op.bytesLess q.toList t.toList = true then q else t := by
  cases h : Op.bytesLess q.toList t.toList with
  | true =>
    have h1 := bl_asymm h
    have h2 : (t.toList == q.toList) = false := by
      have : t.toList ≠ q.toList := fun e => by rw [e, bl_irrefl] at h; cases h
      simpa using this
    rw [h1, h2]; rfl
  | false =>
    cases h1 : Op.bytesLess t.toList q.toList with
    | true => rfl
    | false =>
      have h2 := bl_tri _ _ h1 h
      rw [h2]; simp

end Go.Proofs.Ytdhmicpoigoleab

/- The contracts of the program's 'bracket' and 'LyndonBracket'. -/

namespace Go.Proofs.Ytdhmicpoigoleab
open Go.RowKit Go.Shelf

theorem lynB_parts {s : ByteArray} (h : lynB s = true) (h2 : 2 ≤ s.size) : lynB (s.extract 0 (splitI s.data.toList)) = true ∧ lynB (s.extract (splitI s.data.toList) s.size) = true := by
  have hln : s.data.toList.length = s.size := by simp
  obtain ⟨h12, _⟩ := lynB_size h
  unfold lynB text12 at h ⊢
  simp only [Bool.and_eq_true, decide_eq_true_eq] at h ⊢
  have e1 : (s.extract 0 (splitI s.data.toList)).data.toList = s.data.toList.take (splitI s.data.toList) := by rw [extract_take, bstr_toList]
  have e2 : (s.extract (splitI s.data.toList) s.size).data.toList = s.data.toList.drop (splitI s.data.toList) := by rw [← extract_drop, ByteArray.toList_eq]
  obtain ⟨g1, g2, _⟩ := splitI_lyn h.2 (by omega)
  rw [e1, e2]
  refine ⟨⟨⟨?_, ?_⟩, g1⟩, ⟨⟨?_, ?_⟩, g2⟩⟩
  · exact List.all_eq_true.2 fun c hc => List.all_eq_true.1 h.1.1 c (List.mem_of_mem_take hc)
  · rw [ByteArray.size_extract]; omega
  · exact List.all_eq_true.2 fun c hc => List.all_eq_true.1 h.1.1 c (List.mem_of_mem_drop hc)
  · rw [ByteArray.size_extract]; omega

set_option maxRecDepth 100000 in
set_option maxHeartbeats 4000000 in
theorem iBracket_in (k : Nat) : ∀ (s : ByteArray) (w : World), s.size ≤ k → lynB s = true →
    Calls Try.prog 24 #[.string s] w fun e w' => e = .returned (.tuple #[.string ((bracketF k s).getD { data := #[] }), .bool (bracketF k s).isSome]) ∧ Below w.heap.size w w' := by
  induction k with
  | zero =>
    intro s w hk hl
    have := (lynB_size hl).2
    omega
  | succ k ih =>
    intro s w hk hl
    obtain ⟨h12, h0⟩ := lynB_size hl
    have hnl : ¬ lynB s = false := by rw [hl]; exact Bool.noConfusion
    by_cases h1 : s.size = 1
    · have e : bracketF (k + 1) s = some s := by rw [bracketF, if_neg hnl, if_pos h1]
      rw [e]
      have hi1 : (s.size : Int) = 1 := by omega
      have hbe : ((s.size : Int) == 1) = true := by simp [h1]
      clear hl hnl e ih h1
      go_enter Try.func24, Try.ntmps24
      go_wp2
      go_ret2
      exact ⟨rfl, Below.refl _ _⟩
    · have hln : s.data.toList.length = s.size := by simp
      obtain ⟨hi1, hi2⟩ := splitI_in (l := s.data.toList) (by rw [hln]; omega)
      obtain ⟨hp1, hp2⟩ := lynB_parts hl (by omega)
      have e : bracketF (k + 1) s = (bracketF k (s.extract 0 (splitI s.data.toList))).bind fun x => (bracketF k (s.extract (splitI s.data.toList) s.size)).bind fun y => commO x y := by rw [bracketF, if_neg hnl, if_neg h1]
      rw [e]
      have hsp : ∀ W, _ := fun W => iSplit_any s W (by omega) h12
      obtain ⟨i, hi⟩ : ∃ i, splitI s.data.toList = i := ⟨_, rfl⟩
      rw [hi] at hsp hi1 hi2 hp1 hp2 ⊢
      rw [hln] at hi2
      obtain ⟨p, hp⟩ : ∃ p, s.extract 0 i = p := ⟨_, rfl⟩
      obtain ⟨q, hq⟩ : ∃ q, s.extract i s.size = q := ⟨_, rfl⟩
      have sp : p.size = i := by rw [← hp, ByteArray.size_extract]; omega
      have sq : q.size = s.size - i := by rw [← hq, ByteArray.size_extract]; omega
      rw [hp, hq] at hsp ⊢
      rw [hp] at hp1
      rw [hq] at hp2
      obtain ⟨op, hop⟩ : ∃ o, bracketF k p = o := ⟨_, rfl⟩
      obtain ⟨oq, hoq⟩ : ∃ o, bracketF k q = o := ⟨_, rfl⟩
      have H1 : Hid (∀ W, Calls Try.prog 24 #[.string p] W fun e w' => e = .returned (.tuple #[.string (op.getD { data := #[] }), .bool op.isSome]) ∧ Below W.heap.size W w') := Lib.hid fun W => by
        rw [← hop]; exact ih p W (by omega) hp1
      have H2 : Hid (∀ W, Calls Try.prog 24 #[.string q] W fun e w' => e = .returned (.tuple #[.string (oq.getD { data := #[] }), .bool oq.isSome]) ∧ Below W.heap.size W w') := Lib.hid fun W => by
        rw [← hoq]; exact ih q W (by omega) hp2
      rw [hop, hoq]
      have hpm : ∀ x, op = some x → x.size ≤ maxLen := fun x hx => by have := bracket_size (hop.trans hx); unfold maxLen; omega
      have hqm : ∀ x, oq = some x → x.size ≤ maxLen := fun x hx => by have := bracket_size (hoq.trans hx); unfold maxLen; omega
      have HPM := Lib.hid hpm
      have HQM := Lib.hid hqm
      have HSP := Lib.hid hsp
      have hn1 : ¬ (s.size : Int) = 1 := by omega
      have hbe : ((s.size : Int) == 1) = false := by simp; omega
      clear hl hnl e ih hsp hop hoq hp hq sp sq hln hi hpm hqm hp1 hp2
      go_enter Try.func24, Try.ntmps24
      go_wp2_with fail
      refine (HSP.out _).mono ?_
      rintro e w1 ⟨rfl, hb1⟩
      have HB1 := Lib.hid hb1
      clear hb1
      go_wp2_with fail
      refine (H1.out _).mono ?_
      rintro e w2 ⟨rfl, hb2⟩
      have HB2 := Lib.hid (HB1.out.trans (hb2.mono HB1.out.size))
      clear hb2
      cases op with
      | none =>
        go_wp2
        go_ret2
        exact ⟨rfl, HB2.out⟩
      | some x =>
        go_wp2_with fail
        refine (H2.out _).mono ?_
        rintro e w3 ⟨rfl, hb3⟩
        have HB3 := Lib.hid (HB2.out.trans (hb3.mono HB2.out.size))
        clear hb3
        cases oq with
        | none =>
          go_wp2
          go_ret2
          exact ⟨rfl, HB3.out⟩
        | some y =>
          obtain ⟨o, ho⟩ : ∃ o, commO x y = o := ⟨_, rfl⟩
          have HO := Lib.hid ho
          have hxm := HPM.out x rfl
          have hym := HQM.out y rfl
          clear ho
          go_wp2_with fail
          refine (iComm_any x y o _ hxm hym HO.out).mono ?_
          rintro e w4 ⟨rfl, hb4⟩
          have HB4 := Lib.hid (HB3.out.trans (hb4.mono HB3.out.size))
          clear hb4
          go_wp2
          go_ret2
          exact ⟨by rw [show ((some x).bind fun x => (some y).bind fun y => commO x y) = o from HO.out]; rfl, HB4.out⟩

set_option maxRecDepth 100000 in
set_option maxHeartbeats 2000000 in
theorem iLyndonBracket_any (s : ByteArray) (o : Option ByteArray) (w : World) (hs : s.size ≤ maxLen) (ho : bracketO s = o) :
    Calls Try.prog 10 #[.string s] w fun e w' => e = .returned (.tuple #[.string (o.getD { data := #[] }), .bool o.isSome]) ∧ Below w.heap.size w w' := by
  cases hl : lynB s with
  | false =>
    have e : bracketO s = none := by unfold bracketO; rw [bracketF, if_pos hl]
    obtain rfl : none = o := e.symm.trans ho
    have HL := Lib.hid hl
    clear hl e ho
    go_enter Try.func10, Try.ntmps10
    go_wp2_with fail
    refine (iLyndonIn_is s false _ hs HL.out).mono ?_
    rintro e w1 ⟨rfl, hb1⟩
    go_wp2
    go_ret2
    exact ⟨rfl, hb1⟩
  | true =>
    have HL := Lib.hid hl
    have HBr : Hid (∀ W, Calls Try.prog 24 #[.string s] W fun e w' => e = .returned (.tuple #[.string (o.getD { data := #[] }), .bool o.isSome]) ∧ Below W.heap.size W w') := Lib.hid fun W => by
      rw [← ho]; exact iBracket_in 12 s W (lynB_size hl).1 hl
    clear hl ho
    go_enter Try.func10, Try.ntmps10
    go_wp2_with fail
    refine (iLyndonIn_is s true _ hs HL.out).mono ?_
    rintro e w1 ⟨rfl, hb1⟩
    have HB1 := Lib.hid hb1
    clear hb1
    go_wp2_with fail
    refine (HBr.out _).mono ?_
    rintro e w2 ⟨rfl, hb2⟩
    have HB2 := Lib.hid (HB1.out.trans (hb2.mono HB1.out.size))
    clear hb2
    go_wp2
    go_ret2
    exact ⟨rfl, HB2.out⟩

end Go.Proofs.Ytdhmicpoigoleab

/- The contracts of the program's 'moebius' and 'LyndonCount'. -/

namespace Go.Proofs.Ytdhmicpoigoleab
open Go.RowKit

/-- The sum over divisors up to m, from the least one on, of powers that grow. -/
def sumUp (k n : Nat) : Nat → Int
  | 0 => 0
  | m + 1 => if n % (m + 1) = 0 then sumUp k n m + muI (n / (m + 1)) * ((k ^ (m + 1) : Nat) : Int) else sumUp k n m
theorem sumUp_all : ∀ (k : Fin 5) (n : Fin 13), sumUp k.val n.val n.val = sumMuC k.val n.val n.val := by decide +kernel
theorem sumUp_is {k n : Nat} (hk : k ≤ 4) (hn : n ≤ 12) : sumUp k n n = sumMuC k n n := sumUp_all ⟨k, by omega⟩ ⟨n, by omega⟩
end Go.Proofs.Ytdhmicpoigoleab

/- The contract of the program's 'LyndonFactors'. -/

namespace Go.Proofs.Ytdhmicpoigoleab
open Go.RowKit Go.Shelf

theorem ownSNil (base : Nat) (w : World) : OwnS base w (.slice none 0 0) [] := ⟨rfl, .inl ⟨rfl, rfl⟩⟩

end Go.Proofs.Ytdhmicpoigoleab

/- The contract of the laws' 'heldStringS'. -/

namespace Go.Proofs.Ytdhmicpoigoleab
open Go.RowKit Go.Shelf

theorem marksS_get (k n i : Nat) (h : i < (marksS k n).length) : (marksS k n)[i] = mkS (k + i) := by simp [marksS]
theorem marksS_small (k n : Nat) (hk : k ≤ 1000000) (hn : n ≤ 1048576) : ∀ s ∈ marksS k n, s.size ≤ maxLen := fun t ht => by
  unfold marksS at ht
  obtain ⟨i, hi, rfl⟩ := List.mem_map.1 ht
  have hi := List.mem_range.1 hi
  have := mkS_size (k + i)
  unfold maxLen
  omega

end Go.Proofs.Ytdhmicpoigoleab

/- The contract of slices.Reverse at texts. -/

namespace Go.Proofs.Ytdhmicpoigoleab
open Go.RowKit Go.Shelf

/-- The list with its first i and last i texts exchanged. -/
def Swapped (zs ys : List ByteArray) (i : Nat) : Prop := ys.length = zs.length ∧ ∀ p, p < zs.length → ys[p]? = if p < i ∨ zs.length - 1 - p < i then zs[zs.length - 1 - p]? else zs[p]?
theorem Swapped.all {zs ys : List ByteArray} {i : Nat} (h : Swapped zs ys i) (hi : zs.length ≤ 2 * i + 1) : ys = zs.reverse := by
  refine List.ext_getElem? fun p => ?_
  by_cases hp : p < zs.length
  · rw [h.2 p hp, List.getElem?_reverse hp]
    by_cases hc : p < i ∨ zs.length - 1 - p < i
    · rw [if_pos hc]
    · rw [if_neg hc, show zs.length - 1 - p = p by omega]
  · rw [List.getElem?_eq_none (by rw [h.1]; omega), List.getElem?_eq_none (by rw [List.length_reverse]; omega)]
theorem Swapped.step {zs ys : List ByteArray} {i j : Nat} (h : Swapped zs ys i) (hj : j + i + 1 = zs.length) (hij : i < j) {a b : ByteArray} (ha : ys[i]? = some a) (hb : ys[j]? = some b) : Swapped zs ((ys.set i b).set j a) (i + 1) := by
  have h1 := h.2 i (by omega)
  have h2 := h.2 j (by omega)
  rw [if_neg (by omega)] at h1 h2
  rw [ha] at h1
  rw [hb] at h2
  refine ⟨by rw [List.length_set, List.length_set]; exact h.1, fun p hp => ?_⟩
  by_cases ej : p = j
  · subst ej
    rw [List.getElem?_set_self (by rw [List.length_set, h.1]; exact hp), if_pos (by omega), show zs.length - 1 - p = i by omega]
    exact h1
  · rw [List.getElem?_set_ne (Ne.symm ej)]
    by_cases ei : p = i
    · subst ei
      rw [List.getElem?_set_self (by rw [h.1]; exact hp), if_pos (by omega), show zs.length - 1 - p = j by omega]
      exact h2
    · rw [List.getElem?_set_ne (Ne.symm ei), h.2 p hp]
      by_cases hc : p < i ∨ zs.length - 1 - p < i
      · rw [if_pos hc, if_pos (by omega)]
      · rw [if_neg hc, if_neg (by omega)]

end Go.Proofs.Ytdhmicpoigoleab

/- The contracts of the program's 'lyndonWords' and 'LyndonList': a closure that calls itself. -/

namespace Go.Proofs.Ytdhmicpoigoleab
open Go.RowKit Go.Shelf

/-- What the closure finds: the letters from the greatest on, until one may not stand here. -/
def dnC (f : ByteArray → List ByteArray) (b : ByteArray) : Nat → List ByteArray
  | 0 => []
  | c + 1 => if mayL (b ++ chrB c).data.toList then f (b ++ chrB c) ++ dnC f b c else []
def growF (k : Nat) : Nat → ByteArray → List ByteArray
  | 0, b => if lynL b.data.toList then [b] else []
  | m + 1, b => dnC (growF k m) b k
theorem chr_list (b : ByteArray) (c : Nat) : (b ++ chrB c).data.toList = b.data.toList ++ [UInt8.ofNat (97 + c)] := by
  rw [ByteArray.data_append, Array.toList_append]; rfl
theorem chr_less {c d : Nat} (hc : c < d) (hd : d < 4) : UInt8.ofNat (97 + c) < UInt8.ofNat (97 + d) := by
  rw [UInt8.lt_iff_toNat_lt, UInt8.toNat_ofNat', UInt8.toNat_ofNat', Nat.mod_eq_of_lt (by omega), Nat.mod_eq_of_lt (by omega)]; omega
theorem allC_nil {f : ByteArray → List ByteArray} {b : ByteArray} : ∀ c, (∀ d, d < c → f (b ++ chrB d) = []) → allC f b c = []
  | 0, _ => rfl
  | c + 1, h => by rw [allC, allC_nil c (fun d hd => h d (by omega)), h c (by omega)]; rfl
theorem allF_nil (k : Nat) : ∀ (m : Nat) (b : ByteArray), (∀ e, lynL (b.data.toList ++ e) = false) → allF k m b = []
  | 0, b, h => by
    have := h []
    rw [List.append_nil] at this
    rw [allF, this]; rfl
  | m + 1, b, h => by
    rw [allF]
    exact allC_nil k fun d _ => allF_nil k m _ fun e => by rw [chr_list, List.append_assoc]; exact h _
theorem dnC_all {k m : Nat} (ih : ∀ b, (growF k m b).reverse = allF k m b) (b : ByteArray) : ∀ c, c ≤ 4 → (dnC (growF k m) b c).reverse = allC (allF k m) b c
  | 0, _ => rfl
  | c + 1, hc => by
    rw [dnC]
    cases hm : mayL (b ++ chrB c).data.toList with
    | true => rw [if_pos rfl, List.reverse_append, ih, dnC_all ih b c (by omega), allC]
    | false =>
      rw [if_neg Bool.false_ne_true]
      refine (allC_nil (c + 1) fun d hd => allF_nil k m _ fun e => ?_).symm
      rw [chr_list] at hm ⊢
      by_cases hdc : d = c
      · subst hdc; exact may_lyn hm e
      · exact may_lyn (may_less hm (chr_less (by omega) (by omega))) e
theorem growF_all (k : Nat) (hk : k ≤ 4) : ∀ m b, (growF k m b).reverse = allF k m b
  | 0, b => by rw [growF, allF]; split <;> rfl
  | m + 1, b => by rw [growF, allF]; exact dnC_all (growF_all k hk m) b k hk
theorem growF_len (k : Nat) (hk : k ≤ 4) (m : Nat) (b : ByteArray) : (growF k m b).length ≤ 4 ^ m := by
  rw [← List.length_reverse, growF_all k hk]; exact allF_len k hk m b

abbrev StrsT : TypeId := 23
abbrev pt (B : Nat) : Value := .pointer (some ⟨B, 0, none⟩)
end Go.Proofs.Ytdhmicpoigoleab

/- The contracts of the program's 'lyndonWords' and 'LyndonList'. -/

namespace Go.Proofs.Ytdhmicpoigoleab
open Go.RowKit Go.Shelf

end Go.Proofs.Ytdhmicpoigoleab

/- The forms of the contracts of chapter 5 that its laws call. -/

namespace Go.Proofs.Ytdhmicpoigoleab
open Go.RowKit

theorem below_eq {w w' : World} (h : w = w') : Below w.heap.size w w' := by subst h; exact Below.refl _ _
theorem sLyndonIn_law {s : ByteArray} {b : Bool} {w : World} (hs : s.size ≤ maxLen) (hb : lynB s = b) :
    Calls Try.prog 25 #[.string s] w fun e w' => e = .returned (.bool b) ∧ Below w.heap.size w w' :=
  (sLyndonIn_is s b w hs hb).mono fun _ _ ⟨h1, h2⟩ => ⟨h1, below_eq h2⟩
theorem iLyndonIn_law {s : ByteArray} {b : Bool} {w : World} (hs : s.size ≤ maxLen) (hb : lynB s = b) :
    Calls Try.prog 23 #[.string s] w fun e w' => e = .returned (.bool b) ∧ Below w.heap.size w w' := iLyndonIn_is s b w hs hb

theorem sLyndonSplit_law {s x y : ByteArray} {b : Bool} {w : World} (hs : s.size ≤ maxLen) (hx : cond (split12 s) (s.extract 0 (splitI s.data.toList)) { data := #[] } = x) (hy : cond (split12 s) (s.extract (splitI s.data.toList) s.size) { data := #[] } = y) (hb : split12 s = b) :
    Calls Try.prog 26 #[.string s] w fun e w' => e = .returned (.tuple #[.string x, .string y, .bool b]) ∧ Below w.heap.size w w' := by
  rw [hb] at hx hy
  subst hx
  subst hy
  cases b with
  | false => exact (sLyndonSplit_no s w hs hb).mono fun _ _ ⟨h1, h2⟩ => ⟨h1, below_eq h2⟩
  | true => exact sLyndonSplit_yes s w hs hb
theorem sLyndonBracket_law {s x : ByteArray} {b : Bool} {w : World} (hs : s.size ≤ maxLen) (hx : (bracketO s).getD { data := #[] } = x) (hb : (bracketO s).isSome = b) :
    Calls Try.prog 11 #[.string s] w fun e w' => e = .returned (.tuple #[.string x, .bool b]) ∧ Below w.heap.size w w' := by
  subst hx
  subst hb
  exact sLyndonBracket_any s _ w hs rfl
theorem sLyndonFactors_law {s : ByteArray} {zs : List ByteArray} {b : Bool} {w : World} (hs : s.size ≤ maxLen) (hz : factL s = zs) (hb : text12 s = b) :
    Calls Try.prog 40 #[.string s] w (SStrs w b zs) := by
  subst hz
  exact sLyndonFactors_any s b w hs hb

theorem iLyndonBracket_law {s x : ByteArray} {b : Bool} {w : World} (hs : s.size ≤ maxLen) (hx : (bracketO s).getD { data := #[] } = x) (hb : (bracketO s).isSome = b) :
    Calls Try.prog 10 #[.string s] w fun e w' => e = .returned (.tuple #[.string x, .bool b]) ∧ Below w.heap.size w w' := by
  subst hx
  subst hb
  exact iLyndonBracket_any s _ w hs rfl
theorem list_len {k n : Int} {zs us : List ByteArray} {b : Bool} (hz : listL k.toNat n.toNat = zs) (hb : (inR 1 4 k && inR 1 6 n) = b) (hus : cond b zs [] = us) : us.length ≤ 4096 := by
  subst hus
  cases b with
  | false => exact Nat.zero_le _
  | true =>
    subst hz
    unfold inR at hb
    simp only [Bool.and_eq_true, decide_eq_true_eq] at hb
    show (listL k.toNat n.toNat).length ≤ 4096
    have h1 := allF_len k.toNat (by omega) n.toNat { data := #[] }
    have h3 : 4 ^ n.toNat ≤ 4096 := Nat.le_trans (Nat.pow_le_pow_right (by omega) (by omega : n.toNat ≤ 6)) (by decide)
    unfold listL
    omega
theorem allC_small {f : ByteArray → List ByteArray} {b : ByteArray} {M : Nat} (h : ∀ d, ∀ z ∈ f (b ++ chrB d), z.size ≤ M) : ∀ c, ∀ z ∈ allC f b c, z.size ≤ M
  | 0, z, hz => by cases hz
  | c + 1, z, hz => by
    rw [allC] at hz
    rcases List.mem_append.1 hz with hz | hz
    · exact allC_small h c z hz
    · exact h c z hz
theorem allF_small (k : Nat) : ∀ (m : Nat) (b : ByteArray), ∀ z ∈ allF k m b, z.size ≤ b.size + m
  | 0, b, z, hz => by
    rw [allF] at hz
    split at hz
    · rw [List.mem_singleton.1 hz]; exact Nat.le_refl _
    · cases hz
  | m + 1, b, z, hz => by
    rw [allF] at hz
    refine allC_small (fun d z hz => ?_) k z hz
    have := allF_small k m _ z hz
    rw [ByteArray.size_append, show (chrB d).size = 1 from rfl] at this
    omega
theorem list_small {k n : Int} {zs us : List ByteArray} {b : Bool} (hz : listL k.toNat n.toNat = zs) (hb : (inR 1 4 k && inR 1 6 n) = b) (hus : cond b zs [] = us) : ∀ z ∈ us, z.size ≤ maxLen := fun z hm => by
  subst hus
  cases b with
  | false => cases hm
  | true =>
    subst hz
    unfold inR at hb
    simp only [Bool.and_eq_true, decide_eq_true_eq] at hb
    have h1 := allF_small k.toNat n.toNat { data := #[] } z hm
    rw [show ({ data := #[] } : ByteArray).size = 0 from rfl] at h1
    unfold maxLen; omega
theorem fact_len {s : ByteArray} {zs us : List ByteArray} {b : Bool} (hz : factL s = zs) (hus : cond b zs [] = us) : us.length ≤ 4096 := by
  subst hus
  cases b with
  | false => exact Nat.zero_le _
  | true =>
    subst hz
    have := factF_len 12 s
    show (factF 12 s).length ≤ 4096
    omega
theorem factF_small : ∀ (f : Nat) (s : ByteArray), ∀ z ∈ factF f s, z.size ≤ s.size
  | 0, _, z, hz => by cases hz
  | f + 1, s, z, hz => by
    rw [factF] at hz
    split at hz
    · cases hz
    · rcases List.mem_cons.1 hz with rfl | hz
      · rw [ByteArray.size_extract]; omega
      · have := factF_small f _ z hz
        rw [ByteArray.size_extract] at this
        omega
theorem fact_small {s : ByteArray} {zs us : List ByteArray} {b : Bool} (hs : s.size ≤ maxLen) (hz : factL s = zs) (hus : cond b zs [] = us) : ∀ z ∈ us, z.size ≤ maxLen := fun z hm => by
  subst hus
  cases b with
  | false => cases hm
  | true =>
    subst hz
    exact Nat.le_trans (factF_small 12 s z hm) hs

end Go.Proofs.Ytdhmicpoigoleab

/- Texts that are owned, read as a list of texts. -/

namespace Go.Proofs.Ytdhmicpoigoleab
open Go.RowKit Go.Shelf

theorem OwnS.at_ {base : Nat} {w : World} {a : Option Addr} {n c : Nat} {us : List ByteArray} (h : OwnS base w (.slice a n c) us) (hs : ∀ z ∈ us, z.size ≤ maxLen) : StrsAt w a us := by
  rcases h.2 with ⟨e, h0⟩ | ⟨g, cap, cur, e, h1⟩
  · refine ⟨fun h2 => ?_, hs⟩
    omega
  · have h' := h
    simp only [Value.slice.injEq] at e
    obtain ⟨rfl, rfl, rfl⟩ := e
    exact (strsAt_of_owns rfl h' hs).1
theorem OwnS.strs {base : Nat} {w : World} {v : Value} {us : List ByteArray} (h : OwnS base w v us) (hs : ∀ z ∈ us, z.size ≤ maxLen) : ∃ a c, v = .slice a us.length c ∧ StrsAt w a us := by
  rcases h.2 with ⟨rfl, h0⟩ | ⟨g, cap, cur, rfl, h1⟩
  · exact ⟨none, 0, by rw [h0], OwnS.at_ h hs⟩
  · exact ⟨_, _, rfl, OwnS.at_ h hs⟩

end Go.Proofs.Ytdhmicpoigoleab

/- The contracts of the model's draws of chapter 5. -/

namespace Go.Proofs.Ytdhmicpoigoleab
open Go.RowKit Go.Shelf

def abcbL : List ByteArray := [{ data := #[97] }, { data := #[98] }, { data := #[99] }, { data := #[98] }]
theorem abcbL_size : ∀ s ∈ abcbL, s.size = 1 := by decide

set_option maxRecDepth 100000 in
set_option maxHeartbeats 4000000 in
theorem l91Text_any (base rb : Nat) (a : Option Addr) (n cap : Nat) (zs : List Int) (p most : Nat) (w : World) (h : Rd base w rb a n cap zs p) (hp : p ≤ 90000) (hm : most ≤ 10) :
    Calls Try.prog 41 #[.pointer (some ⟨rb, 0, none⟩), .int .i64 most] w fun e w' => (∃ s : ByteArray, e = .returned (.string s) ∧ s.size ≤ most + 1) ∧ (∃ p', p' ≤ p + 20 ∧ Rd base w' rb a n cap zs p') ∧ Below base w w' := by
  have hw1 : IntKind.i64.wrap ((most : Int) + 1) = ((most + 1 : Nat) : Int) := by rw [IntWalk.i64_in _ (by omega)]; push_cast; rfl
  have hlo := h.lo
  have hrl := h.lt
  have HP := Lib.hid (pick_any base rb a n cap zs p (most + 1) w h (by omega) (by omega) (by omega))
  clear h
  go_enter Try.func41, Try.ntmps41
  go_wp2_with fail
  refine HP.out.mono ?_
  rintro e w1 ⟨⟨N, rfl, hN⟩, hR1, hB1, _⟩
  have HR1 := Lib.hid hR1
  have HB1 := Lib.hid hB1
  clear hR1 hB1
  go_wp2_with fail
  go_loopw [5, 7] (fun v i wr => ∃ (k : Nat) (s : ByteArray), k ≤ N ∧ v = .string s ∧ i = .int .i64 k ∧ s.size ≤ k ∧ Rd base wr rb a n cap zs (p + 1 + k) ∧ Below base w wr) (fun _ i _ => N - (intOf i).toNat)
  case atStart => exact ⟨0, _, Nat.zero_le _, rfl, rfl, Nat.le_refl _, HR1.out, HB1.out⟩
  case round =>
    obtain ⟨k, s, hk, rfl, rfl, hsz, hR, hB⟩ := hrel
    have HR := Lib.hid hR
    have HB := Lib.hid hB
    have hbl := hR.lt
    clear hR hB
    by_cases hlt : k < N
    · have hli : (k : Int) < (N : Int) := by omega
      have hb2 : Below wr.heap.size wr (wr.alloc (.cells #[.string { data := #[97] }, .string { data := #[98] }, .string { data := #[99] }, .string { data := #[98] }] 9)) := (Below.refl _ wr).alloc (Nat.le_refl _) _
      have HR2 := Lib.hid (HR.out.below hb2)
      have HOF := Lib.hid (of_any base rb a n cap zs (p + 1 + k) wr.heap.size 4 4 abcbL _ HR2.out (by omega) rfl (by omega) (by omega) (by omega) (by simp) (fun i hi => by
        have h2 : i = 0 ∨ i = 1 ∨ i = 2 ∨ i = 3 := by
          have : i < 4 := hi
          omega
        rcases h2 with rfl | rfl | rfl | rfl
        · exact (World.cell?_alloc_at _ _ _ _ (by simp)).trans rfl
        · exact (World.cell?_alloc_at _ _ _ _ (by simp)).trans rfl
        · exact (World.cell?_alloc_at _ _ _ _ (by simp)).trans rfl
        · exact (World.cell?_alloc_at _ _ _ _ (by simp)).trans rfl))
      go_wp2_with fail
      refine HOF.out.mono ?_
      rintro e w5 ⟨⟨t, ht, rfl⟩, hR5, hB5⟩
      have ht1 := abcbL_size t ht
      have hnot : ¬ 9223372036854775807 < s.size + t.size := by omega
      have HR5 := Lib.hid hR5
      have HB5 := Lib.hid (HB.out.trans ((hb2.mono (by omega)).trans hB5))
      clear ht hR5 hB5
      go_wp2
      go_roundw
      case rel => exact ⟨k + 1, _, by omega, rfl, by go_num, by rw [ByteArray.size_append]; omega, HR5.out, HB5.out⟩
      case measure => simp [intOf]; omega
    · obtain rfl : k = N := by omega
      have HP2 := Lib.hid (pick_any base rb a n cap zs (p + 1 + k) 24 wr HR.out (by omega) (by omega) (by omega))
      go_wp2_with fail
      refine HP2.out.mono ?_
      rintro e w6 ⟨⟨z, rfl, hz⟩, hR6, hB6, _⟩
      have HR6 := Lib.hid hR6
      have HB6 := Lib.hid (HB.out.trans hB6)
      have hnot : ¬ 9223372036854775807 < s.size + 1 := by omega
      clear hR6 hB6
      by_cases hz0 : z = 0
      · subst hz0
        go_wp2
        go_ret
        exact ⟨⟨_, rfl, by rw [ByteArray.size_append]; show s.size + 1 ≤ _; omega⟩, ⟨_, by omega, HR6.out⟩, HB6.out⟩
      · have hzi : ((z : Int) == 0) = false := by simpa using hz0
        have hzn : ¬ (z : Int) = 0 := by omega
        go_wp2
        go_ret
        exact ⟨⟨_, rfl, by omega⟩, ⟨_, by omega, HR6.out⟩, HB6.out⟩

set_option maxRecDepth 100000 in
set_option maxHeartbeats 4000000 in
theorem l91Lyndon_any (base rb : Nat) (a : Option Addr) (n cap : Nat) (zs : List Int) (p : Nat) (w : World) (h : Rd base w rb a n cap zs p) (hp : p ≤ 90000) :
    Calls Try.prog 22 #[.pointer (some ⟨rb, 0, none⟩)] w fun e w' => (∃ s : ByteArray, e = .returned (.string s) ∧ s.size ≤ 12) ∧ Below base w w' := by
  have hlo := h.lo
  have hrl := h.lt
  have HT := Lib.hid (l91Text_any base rb a n cap zs p 7 w h hp (by omega))
  clear h
  go_enter Try.func22, Try.ntmps22
  go_wp2_with fail
  refine HT.out.mono ?_
  rintro e w1 ⟨⟨s, rfl, hs⟩, ⟨p1, _, hR1⟩, hB1⟩
  have hbl := hR1.lt
  obtain ⟨b, hb⟩ : ∃ b, text12 s = b := ⟨_, rfl⟩
  obtain ⟨us, hus⟩ : ∃ us, cond b (factL s) [] = us := ⟨_, rfl⟩
  have hsm : ∀ z ∈ us, z.size ≤ 12 := fun z hz => by
    rw [← hus] at hz
    cases b with
    | false => cases hz
    | true => have := factF_small 12 s z hz; omega
  have HSM := Lib.hid hsm
  have HB := Lib.hid hb
  have HU := Lib.hid hus
  have HB1 := Lib.hid hB1
  clear hR1 hB1 hsm hb hus
  go_wp2_with fail
  refine (sLyndonFactors_any s b _ (by unfold maxLen; omega) HB.out).mono ?_
  rintro e w2 ⟨⟨v, rfl, hv⟩, hb2⟩
  rw [HU.out] at hv
  obtain ⟨av, cv, rfl, hat⟩ := hv.strs fun z hz => by have := HSM.out z hz; unfold maxLen; omega
  have HAT := Lib.hid hat
  have HB2 := Lib.hid (HB1.out.trans (hb2.mono (by omega)))
  clear hv hat hb2
  obtain ⟨L, hL⟩ : ∃ L, us.length = L := ⟨_, rfl⟩
  rw [hL]
  cases b with
  | false =>
    go_wp2
    go_ret
    exact ⟨⟨_, rfl, by decide⟩, HB2.out⟩
  | true =>
    by_cases hL0 : L = 0
    · subst hL0
      go_wp2
      go_ret
      exact ⟨⟨_, rfl, by decide⟩, HB2.out⟩
    · have hLi : (0 : Int) < (L : Int) := by omega
      have hLn : 0 < L := by omega
      obtain ⟨x, rfl, hxb, hxc⟩ := HAT.out.cells (by omega)
      have hu0 : 0 < us.length := by omega
      obtain ⟨t, ht⟩ : ∃ t, us[0] = t := ⟨_, rfl⟩
      have hc0 := hxc 0 hu0
      rw [ht, show x.add 0 = x by unfold Addr.add; simp] at hc0
      have hts : t.size ≤ 12 := by rw [← ht]; exact HSM.out _ (List.getElem_mem hu0)
      clear ht hxc
      go_wp2
      go_ret
      exact ⟨⟨t, rfl, hts⟩, HB2.out⟩

set_option maxHeartbeats 1000000 in
theorem drawLyndonBracket_any (a : Option Addr) (n cap : Nat) (zs : List Int) (w : World) (h : BsAt w.heap.size w a n cap zs) :
    Calls Try.prog 9 #[.slice a n cap] w fun e w' => (∃ s : ByteArray, e = .returned (.string s) ∧ s.size ≤ 12) ∧ Below w.heap.size w w' := by
  have HO := Lib.hid (open_any a n cap zs w h)
  clear h
  go_enter Try.func9, Try.ntmps9
  go_wp2_with fail
  refine HO.out.mono ?_
  rintro e w1 ⟨n', zs', rfl, hR1, hB1⟩
  have HR1 := Lib.hid hR1
  have HB1 := Lib.hid hB1
  clear hR1 hB1
  go_wp2_with fail
  refine (l91Lyndon_any w.heap.size w.heap.size a n' cap zs' 0 w1 HR1.out (by omega)).mono ?_
  rintro e w2 ⟨⟨s, rfl, hs⟩, hB2⟩
  have HB2 := Lib.hid (HB1.out.trans hB2)
  clear hB2
  go_wp2
  go_ret
  exact ⟨⟨s, rfl, hs⟩, HB2.out⟩

end Go.Proofs.Ytdhmicpoigoleab

/- What the laws' proofs stand on, part 3 of 3. -/
import Derived.Deep.AppendLies
import Derived.Test.YtjmjkfoibmbnhaaBa
import Derived.Test.YtjmjkfoibmbnhaaBb

/- The contracts of the program's 'imagesOf' and 'WordPut'. -/

namespace Go.Proofs.Ytjmjkfoibmbnhaa
open Go.RowKit Go.Shelf

/-- A list of strings from a cell 0 on, as a law copies it. -/
structure StrsIn (w : World) (a : Option Addr) (g : Nat) (n : Nat) (zs : List ByteArray) : Prop where
  len : zs.length = n
  at0 : 0 < n → a = some ⟨g, 0, none⟩
  blk : g < w.heap.size
  cells : ∀ i (h : i < zs.length), w.cell? ⟨g, i, none⟩ = some (.string zs[i])
  small : ∀ s ∈ zs, s.size ≤ maxLen
theorem StrsIn.below {w w' : World} {a : Option Addr} {g n : Nat} {zs : List ByteArray} (h : StrsIn w a g n zs) (hb : Below w.heap.size w w') : StrsIn w' a g n zs :=
  ⟨h.len, h.at0, Nat.lt_of_lt_of_le h.blk hb.size, fun i hi => (hb.cell (p := ⟨g, i, none⟩) h.blk).trans (h.cells i hi), h.small⟩

theorem imagesOf_yes (a : Option Addr) (g cap n : Nat) (zs : List ByteArray) (w : World) (hs : StrsIn w a g n zs) (hf : fourB zs = true) :
    Calls Try.prog 65 #[.slice a n cap] w fun e w' =>
      ∃ (gi : Nat), e = .returned (.tuple #[.slice (some ⟨gi, 0, none⟩) 4 4, .bool true]) ∧ FourAt gi w.heap.size w' zs ∧ Below w.heap.size w w' := by
  obtain ⟨hz4, hz⟩ := (fourB_iff zs).1 hf
  obtain rfl : n = 4 := by have := hs.len; omega
  obtain rfl := hs.at0 (by omega)
  have hw := wordsOf_four g zs w hz4 hs.blk hs.cells hz cap
  have HW := Lib.hid hw
  clear hw hs hz4 hz hf
  go_enter Try.func65, Try.ntmps65
  go_wp2_with fail
  refine HW.out.mono ?_
  rintro e w2 ⟨gi, vals, rfl, hgi, hvals, hb2⟩
  have HV := Lib.hid hvals
  clear hvals
  go_wp2_with fail
  go_ret2
  refine ⟨gi, rfl, ⟨hgi, fun j h => ?_⟩, hb2⟩
  obtain ⟨v, h1, _, h2⟩ := HV.out j h
  exact ⟨v, h1, h2⟩

theorem imagesOf_no (a : Option Addr) (g cap n : Nat) (zs : List ByteArray) (w : World) (hs : StrsIn w a g n zs) (hn : n ≤ maxLen) (hf : fourB zs = false) :
    Calls Try.prog 65 #[.slice a n cap] w fun e w' =>
      e = .returned (.tuple #[.slice none 0 0, .bool false]) ∧ Below w.heap.size w w' := by
  have hnm := hn
  unfold maxLen at hnm
  by_cases h4 : n = 4
  · have hno : ¬ ∀ s ∈ zs, wordB s.data.toList = true := fun h => by
      have := (fourB_iff zs).2 ⟨hs.len.trans h4, h⟩
      rw [hf] at this; cases this
    have hw := wordsOf_any a g 0 cap n zs w hs.len (by omega) hs.at0 hs.blk (fun i h => by rw [Nat.zero_add]; exact hs.cells i h) hs.small
    have HW := Lib.hid hw
    have HN := Lib.hid hno
    clear hw hs hno hf hn hnm
    subst h4
    go_enter Try.func65, Try.ntmps65
    go_wp2_with fail
    refine HW.out.mono ?_
    rintro e w2 ⟨⟨rfl, _⟩ | ⟨_, _, _, h, _⟩, hb2⟩
    · go_wp2_with fail
      go_ret2
      exact ⟨rfl, hb2⟩
    · exact absurd h HN.out
  · clear hs hf hn
    have h4' : ¬ ((n : Int) = 4) := by omega
    go_enter Try.func65, Try.ntmps65
    go_wp2
    go_ret2
    exact ⟨rfl, Below.refl _ _⟩

set_option maxHeartbeats 1000000 in
theorem iPut_yes (s : ByteArray) (a : Option Addr) (g cap n : Nat) (zs : List ByteArray) (w : World) (hs : StrsIn w a g n zs) (hw : wordB s.data.toList = true) (hf : fourB zs = true) :
    Calls Try.prog 36 #[.string s, .slice a n cap] w fun e w' => e = .returned (toldV (redL [] (putL zs s.data.toList))) ∧ Below w.heap.size w w' := by
  obtain ⟨p1, p2, _⟩ := (wordB_iff _).1 hw
  obtain ⟨hz4, hz⟩ := (fourB_iff zs).1 hf
  have hs60 : s.size ≤ 60 := by simpa using p1
  have HX : Hid (redX [] (s.data.toList.map (imgX zs)).flatten = redL [] (putL zs s.data.toList)) := by
    have := letL_putX zs s.data.toList hz
    have e := (putX_eq zs s.data.toList hz).1
    rw [← e]
    unfold putX at this ⊢
    exact Lib.hid (redX_eq _ _ this)
  have HLr : Hid ((redL [] (putL zs s.data.toList)).length ≤ 4000) := by
    have h1 := redL_len (putL zs s.data.toList) []
    have h2 := putX_len zs s.data.toList hz
    rw [(putX_eq zs s.data.toList hz).1] at h2
    have h3 : s.data.toList.length * 60 ≤ 60 * 60 := Nat.mul_le_mul p1 (Nat.le_refl _)
    exact Lib.hid (by simp only [List.length_nil] at h1; omega)
  have H := Lib.hid hw
  have HF := Lib.hid hf
  have HS := Lib.hid hs
  have H2 := Lib.hid p2
  have HZ := Lib.hid hz
  have HZ4 := Lib.hid hz4
  clear hw hf hs p1 p2 hz hz4
  by_cases h : (redL [] (putL zs s.data.toList)).length ≤ 60
  · have HT := Lib.hid (toldV_yes h)
    have HL := Lib.hid h
    clear h
    go_enter Try.func36, Try.ntmps36
    go_wp2_with fail
    refine (imagesOf_yes a g cap n zs w HS.out HF.out).mono ?_
    rintro e w1 ⟨gi, rfl, hfo, hb1⟩
    have HFo := Lib.hid hfo
    clear hfo
    go_wp2_with fail
    refine (wordOf_yes s _ H.out).mono ?_
    rintro e w2 ⟨g1, cap1, rfl, hown, hb2⟩
    have hw1 := Lib.hid (isWord_of_owns (n₀ := w2.heap.size) (l := s.data.toList) (by simp) (by omega) hown (Nat.le_refl _))
    clear hown
    go_wp2_with fail
    refine ((callsIn_wide (n := 40)).1 (wordPut_in 40 (by omega) g1 s.size cap1 gi 4 w.heap.size s.data.toList zs w2 (by simp) hs60 H2.out hw1.out HZ4.out HZ.out (HFo.out.below hb2))).mono ?_
    rintro e w3 ⟨g4, m, cap4, rfl, hm, hown, hb3⟩
    rw [HX.out] at hm hown
    have HM := Lib.hid hm
    have HO := Lib.hid hown
    clear hm hown
    go_wp2_with fail
    refine (told_yes _ _ _ _ _ _ HM.out (by rw [← HM.out]; exact HL.out) HO.out).mono ?_
    rintro e w5 ⟨rfl, hb5⟩
    go_wp2_with fail
    go_ret2
    exact ⟨by rw [HT.out]; rfl, hb1.trans ((hb2.trans ((hb3.trans (hb5.mono hb3.size)).mono hb2.size)).mono hb1.size)⟩
  · have HT := Lib.hid (toldV_no h)
    have HL := Lib.hid (Nat.lt_of_not_le h)
    clear h
    go_enter Try.func36, Try.ntmps36
    go_wp2_with fail
    refine (imagesOf_yes a g cap n zs w HS.out HF.out).mono ?_
    rintro e w1 ⟨gi, rfl, hfo, hb1⟩
    have HFo := Lib.hid hfo
    clear hfo
    go_wp2_with fail
    refine (wordOf_yes s _ H.out).mono ?_
    rintro e w2 ⟨g1, cap1, rfl, hown, hb2⟩
    have hw1 := Lib.hid (isWord_of_owns (n₀ := w2.heap.size) (l := s.data.toList) (by simp) (by omega) hown (Nat.le_refl _))
    clear hown
    go_wp2_with fail
    refine ((callsIn_wide (n := 40)).1 (wordPut_in 40 (by omega) g1 s.size cap1 gi 4 w.heap.size s.data.toList zs w2 (by simp) hs60 H2.out hw1.out HZ4.out HZ.out (HFo.out.below hb2))).mono ?_
    rintro e w3 ⟨g4, m, cap4, rfl, hm, hown, hb3⟩
    rw [HX.out] at hm hown
    have HM := Lib.hid hm
    have HO := Lib.hid hown
    clear hm hown
    go_wp2_with fail
    refine (told_no _ _ _ _ (by rw [← HM.out]; exact HL.out) (by have := HLr.out; rw [HM.out] at this; unfold maxLen; omega)).mono ?_
    rintro e w5 ⟨rfl, rfl⟩
    go_wp2_with fail
    go_ret2
    exact ⟨by rw [HT.out]; rfl, hb1.trans ((hb2.trans (hb3.mono hb2.size)).mono hb1.size)⟩

theorem iPut_no (s : ByteArray) (a : Option Addr) (g cap n : Nat) (zs : List ByteArray) (w : World) (hm : s.size ≤ maxLen) (hn : n ≤ maxLen) (hs : StrsIn w a g n zs) (h : ¬ (wordB s.data.toList = true ∧ fourB zs = true)) :
    Calls Try.prog 36 #[.string s, .slice a n cap] w fun e w' => e = .returned (.tuple #[.string ByteArray.empty, .bool false]) ∧ Below w.heap.size w w' := by
  have HS := Lib.hid hs
  clear hs
  cases hf : fourB zs with
  | false =>
    have HF := Lib.hid hf
    clear hf h
    go_enter Try.func36, Try.ntmps36
    go_wp2_with fail
    refine (imagesOf_no a g cap n zs w HS.out hn HF.out).mono ?_
    rintro e w1 ⟨rfl, hb1⟩
    go_wp2_with fail
    go_ret2
    exact ⟨rfl, hb1⟩
  | true =>
    have hw : wordB s.data.toList = false := by
      cases hw : wordB s.data.toList with
      | true => exact absurd ⟨hw, hf⟩ h
      | false => rfl
    have HF := Lib.hid hf
    have HW := Lib.hid hw
    clear hf h hw
    go_enter Try.func36, Try.ntmps36
    go_wp2_with fail
    refine (imagesOf_yes a g cap n zs w HS.out HF.out).mono ?_
    rintro e w1 ⟨gi, rfl, hfo, hb1⟩
    clear hfo
    go_wp2_with fail
    refine (wordOf_no _ _ hm HW.out).mono ?_
    rintro e w2 ⟨rfl, hb2⟩
    go_wp2_with fail
    go_ret2
    exact ⟨rfl, hb1.trans (hb2.mono hb1.size)⟩

end Go.Proofs.Ytjmjkfoibmbnhaa

/- The contracts of both sides' 'WordPower' and 'WordPut', the answer under a name of its own; a draw of four words. -/

namespace Go.Proofs.Ytjmjkfoibmbnhaa
open Go.RowKit Go.Shelf

theorem iPower_t {s x : ByteArray} {n : Int} (hs : wordB s.data.toList = true) (h1 : -60 ≤ n) (h2 : n ≤ 60) (h : Is x (redL [] (powL n s.data.toList))) (h60 : x.size ≤ 60) (W : World) :
    Calls Try.prog 27 #[.string s, .int .i64 n] W fun e w' => e = .returned (.tuple #[.string x, .bool true]) ∧ Below W.heap.size W w' := by
  rw [← toldV_is h h60]; exact iPower_yes s n W hs h1 h2
theorem iPower_f {s : ByteArray} {n : Int} (hs : wordB s.data.toList = true) (h1 : -60 ≤ n) (h2 : n ≤ 60) (h : ¬ (redL [] (powL n s.data.toList)).length ≤ 60) (W : World) :
    Calls Try.prog 27 #[.string s, .int .i64 n] W fun e w' => e = .returned (.tuple #[.string ByteArray.empty, .bool false]) ∧ Below W.heap.size W w' := by
  rw [← toldV_no h]; exact iPower_yes s n W hs h1 h2
theorem sPower_t {s x : ByteArray} {n : Int} (hs : wordB s.data.toList = true) (h1 : -60 ≤ n) (h2 : n ≤ 60) (h : Is x (redL [] (powL n s.data.toList))) (h60 : x.size ≤ 60) (W : World) :
    Calls Try.prog 28 #[.string s, .int .i64 n] W fun e w' => e = .returned (.tuple #[.string x, .bool true]) ∧ Below W.heap.size W w' := by
  rw [← toldV_is h h60]; exact sPower_yes s n W hs h1 h2
theorem sPower_f {s : ByteArray} {n : Int} (hs : wordB s.data.toList = true) (h1 : -60 ≤ n) (h2 : n ≤ 60) (h : ¬ (redL [] (powL n s.data.toList)).length ≤ 60) (W : World) :
    Calls Try.prog 28 #[.string s, .int .i64 n] W fun e w' => e = .returned (.tuple #[.string ByteArray.empty, .bool false]) ∧ Below W.heap.size W w' := by
  rw [← toldV_no h]; exact sPower_yes s n W hs h1 h2

theorem iPut_t {s x : ByteArray} {a : Option Addr} {g c : Nat} {zs : List ByteArray} {W : World} (h1 : StrsIn W a g 4 zs) (hs : wordB s.data.toList = true) (hf : fourB zs = true) (h : Is x (redL [] (putL zs s.data.toList))) (h60 : x.size ≤ 60) :
    Calls Try.prog 36 #[.string s, .slice a 4 c] W fun e w' => e = .returned (.tuple #[.string x, .bool true]) ∧ Below W.heap.size W w' := by
  rw [← toldV_is h h60]; exact iPut_yes s a g c 4 zs _ h1 hs hf
theorem sPut_t {s x : ByteArray} {a : Option Addr} {c : Nat} {zs : List ByteArray} {W : World} (h1 : StrsAt W a zs) (hs : wordB s.data.toList = true) (hf : fourB zs = true) (h : Is x (redL [] (putL zs s.data.toList))) (h60 : x.size ≤ 60) :
    Calls Try.prog 37 #[.string s, .slice a 4 c] W fun e w' => e = .returned (.tuple #[.string x, .bool true]) ∧ Below W.heap.size W w' := by
  rw [← toldV_is h h60]; exact sPut_yes s a c zs _ hs hf h1

end Go.Proofs.Ytjmjkfoibmbnhaa

/- The contracts of the laws' own helpers that mark memory and look the marks up. -/

namespace Go.Proofs.Ytjmjkfoibmbnhaa
open Go.RowKit Go.Shelf

/-- A term is stored: its two cells. -/
theorem set_terms (us : List Tm) (i : Nat) (t : Tm) (hi : i < us.length) : ((termsV us).set (i * 2) (.int .i64 t.c)).set (i * 2 + 1) (.string t.s) = termsV (us.set i t) := by
  have e : us = us.take i ++ us[i] :: us.drop (i + 1) := by rw [List.getElem_cons_drop]; exact (List.take_append_drop i us).symm
  have hl : (termsV (us.take i)).length = i * 2 := by rw [termsV_len, List.length_take, Nat.min_eq_left (by omega)]
  have hset : us.set i t = us.take i ++ t :: us.drop (i + 1) := by rw [List.set_eq_take_append_cons_drop, if_pos hi]
  rw [hset]
  have e2 : termsV us = termsV (us.take i) ++ .int .i64 us[i].c :: .string us[i].s :: termsV (us.drop (i + 1)) := by
    rw [← termsV_cons, ← termsV_append, ← e]
  rw [e2, termsV_append, termsV_cons, List.set_append_right _ _ (by omega), List.set_append_right _ _ (by omega), hl, Nat.sub_self, show i * 2 + 1 - i * 2 = 1 by omega]
  rfl

/-- The text of a mark. -/
def mkB (m : Nat) (t : ByteArray) : ByteArray :=
  if _h : m = 0 then t else mkB (m / 10) (⟨#[UInt8.ofNat (48 + m % 10)]⟩ ++ t)
termination_by m
decreasing_by omega
theorem mkB_zero (t : ByteArray) : mkB 0 t = t := by rw [mkB]; simp
theorem mkB_step {m : Nat} (h : m ≠ 0) (t : ByteArray) : mkB (m / 10) (⟨#[UInt8.ofNat (48 + m % 10)]⟩ ++ t) = mkB m t := by conv => rhs; rw [mkB, dif_neg h]
def mkS (k : Nat) : ByteArray := ⟨#[109]⟩ ++ mkB k ⟨#[]⟩

end Go.Proofs.Ytjmjkfoibmbnhaa

/- The contracts of the laws' 'markTermS' and 'heldTermS'. -/

namespace Go.Proofs.Ytjmjkfoibmbnhaa
open Go.RowKit Go.Shelf

def markT (k i : Nat) : Tm := ⟨((k + 2 * i : Nat) : Int), mkS (k + 2 * i + 1)⟩
/-- The marks from k on. -/
def marksT (k n : Nat) : List Tm := (List.range n).map (markT k)
theorem marksT_len (k n : Nat) : (marksT k n).length = n := by simp [marksT]
theorem marksT_get (k n i : Nat) (h : i < (marksT k n).length) : (marksT k n)[i] = markT k i := by simp [marksT]
theorem marksT_set (k j n : Nat) (us : List Tm) (hl : us.length = n) (hj : j < n) : (marksT k j ++ us.drop j).set j (markT k j) = marksT k (j + 1) ++ us.drop (j + 1) := by
  rw [List.set_append_right _ _ (by rw [marksT_len]; exact Nat.le_refl _), marksT_len, Nat.sub_self, List.drop_eq_getElem_cons (by omega : j < us.length), List.set_cons_zero]
  unfold marksT
  rw [List.range_succ, List.map_append, List.append_assoc]
  rfl

theorem ownsRow_past {w w' : World} {base : Nat} {e : TypeId} {size : Nat} {v : Value} {n : Nat} {xs : List Value} (h : w.ownsRow base e size v n xs) (hb : Below w.heap.size w w') : w'.ownsRow base e size v n xs :=
  h.kept ⟨hb.os, hb.tape, hb.output, hb.size, fun j hj _ => hb.block j hj⟩ (row := none) (by
    rcases h.2 with ⟨rfl, _⟩ | ⟨g, cap, cur, rfl, _⟩
    · exact .inl rfl
    · exact .inr (by simp [Value.ownBlock]))
theorem marksT_row (k j n : Nat) (us : List Tm) (hl : us.length = n) (hj : j < n) :
    ((termsV (marksT k j ++ us.drop j)).set (j * 2) (.int .i64 ((k + 2 * j : Nat) : Int))).set (j * 2 + 1) (.string (mkS (k + 2 * j + 1))) = termsV (marksT k (j + 1) ++ us.drop (j + 1)) := by
  rw [← marksT_set k j n us hl hj]
  exact set_terms _ j (markT k j) (by rw [List.length_append, marksT_len, List.length_drop]; omega)

theorem grown_trans {a b c : World} {row : Option Nat} (h : a.grownBy b row) (k : b.grownBy c row) : a.grownBy c row :=
  ⟨k.os.trans h.os, k.tape.trans h.tape, k.output.trans h.output, Nat.le_trans h.size k.size, fun i hi hne => (k.block i (Nat.lt_of_lt_of_le hi h.size) hne).trans (h.block i hi hne)⟩
theorem grown_refl (a : World) (row : Option Nat) : a.grownBy a row := ⟨rfl, rfl, rfl, Nat.le_refl _, fun _ _ _ => rfl⟩
theorem grown_below {a b : World} (row : Option Nat) (h : Below a.heap.size a b) : a.grownBy b row := ⟨h.os, h.tape, h.output, h.size, fun i hi _ => h.block i hi⟩
theorem mkB_size : ∀ (m : Nat) (t : ByteArray), (mkB m t).size ≤ t.size + m := by
  intro m
  induction m using Nat.strongRecOn with
  | _ m ih =>
    intro t
    by_cases h : m = 0
    · subst h; rw [mkB_zero]; exact Nat.le_refl _
    · rw [← mkB_step h]
      have h1 := ih (m / 10) (by omega) (⟨#[UInt8.ofNat (48 + m % 10)]⟩ ++ t)
      have h2 : ((⟨#[UInt8.ofNat (48 + m % 10)]⟩ : ByteArray) ++ t).size = 1 + t.size := by simp [ByteArray.size_append]; rfl
      omega
theorem mkS_size (k : Nat) : (mkS k).size ≤ k + 1 := by
  have h := mkB_size k ⟨#[]⟩
  have h0 : (⟨#[]⟩ : ByteArray).size = 0 := rfl
  have h1 : (mkS k).size = 1 + (mkB k ⟨#[]⟩).size := by unfold mkS; simp [ByteArray.size_append]; rfl
  omega
theorem marksT_small (k n : Nat) (hk : k ≤ 1000000) (hn : n ≤ 1048576) : SmallT (marksT k n) :=
  ⟨by rw [marksT_len]; unfold maxLen; omega, fun t ht => by
    unfold marksT at ht
    obtain ⟨i, hi, rfl⟩ := List.mem_map.1 ht
    have hi := List.mem_range.1 hi
    have := mkS_size (k + 2 * i + 1)
    unfold markT maxLen
    dsimp only
    omega⟩

def marksS (k n : Nat) : List ByteArray := (List.range n).map fun i => mkS (k + i)
theorem marksS_len (k n : Nat) : (marksS k n).length = n := by simp [marksS]
theorem marksS_set (k j n : Nat) (us : List ByteArray) (hl : us.length = n) (hj : j < n) : (strsV (marksS k j ++ us.drop j)).set j (.string (mkS (k + j))) = strsV (marksS k (j + 1) ++ us.drop (j + 1)) := by
  have h1 : (marksS k j ++ us.drop j).set j (mkS (k + j)) = marksS k (j + 1) ++ us.drop (j + 1) := by
    rw [List.set_append_right _ _ (by rw [marksS_len]; exact Nat.le_refl _), marksS_len, Nat.sub_self, List.drop_eq_getElem_cons (by omega : j < us.length), List.set_cons_zero]
    unfold marksS
    rw [List.range_succ, List.map_append, List.append_assoc]
    rfl
  rw [← h1]
  unfold strsV
  rw [List.map_set]
def OwnS (base : Nat) (w : World) (v : Value) (zs : List ByteArray) : Prop := w.ownsRow base 9 1 v zs.length (strsV zs)
theorem OwnS.below {base : Nat} {w w' : World} {v : Value} {zs : List ByteArray} (h : OwnS base w v zs) (hb : Below w.heap.size w w') : OwnS base w' v zs := ownsRow_past h hb

end Go.Proofs.Ytjmjkfoibmbnhaa

/- The contracts of the model's 'l91Four' and 'DrawWordPut'. -/

namespace Go.Proofs.Ytjmjkfoibmbnhaa
open Go.RowKit Go.Shelf

theorem Rd.past {base N : Nat} {w w' : World} {rb : Nat} {a : Option Addr} {n cap : Nat} {zs : List Int} {p : Nat} (h : Rd base w rb a n cap zs p) (hb : Below N w w') (hN : rb < N) : Rd base w' rb a n cap zs p :=
  ⟨h.lo, (hb.block rb hN).trans h.box, h.data.below (hb.mono (Nat.le_of_lt (Nat.lt_of_le_of_lt h.lo hN))), h.short⟩
theorem ownS_made2 (w : World) : OwnS w.heap.size (w.alloc (.cells #[] 9)) (.slice (some ⟨w.heap.size, 0, none⟩) 0 0) [] :=
  World.ownsRow_made w #[] 0 (Nat.le_refl _) (Nat.zero_le _) rfl
theorem OwnS.kept {base : Nat} {w w' : World} {v : Value} {zs : List ByteArray} (h : OwnS base w v zs) {rb : Nat} (hg : w.grownBy w' (some rb)) (hr : rb < base) : OwnS base w' v zs :=
  World.ownsRow.kept h hg (by
    cases hv : v.ownBlock with
    | none => exact .inl rfl
    | some k => exact .inr fun e => by have := (h.lt k hv).1; cases e; omega)

theorem StrsIn.taken {w : World} {g n : Nat} {zs : List ByteArray} (h : StrsIn w (some ⟨g, 0, none⟩) g n zs) (k : Nat) (hk : k ≤ n) : StrsIn w (some ⟨g, 0, none⟩) g k (zs.take k) :=
  ⟨by rw [List.length_take, h.len]; omega, fun _ => rfl, h.blk, fun i hi => by rw [List.getElem_take]; exact h.cells i (by rw [List.length_take] at hi; omega), fun s hs => h.small s (List.mem_of_mem_take hs)⟩
theorem StrsIn.at_ {w : World} {g n : Nat} {zs : List ByteArray} (h : StrsIn w (some ⟨g, 0, none⟩) g n zs) : StrsAt w (some ⟨g, 0, none⟩) zs :=
  ⟨fun _ => ⟨_, rfl, h.blk, fun i hi => by
    have e : (⟨g, 0, none⟩ : Addr).add i = ⟨g, i, none⟩ := by unfold Addr.add; split <;> simp_all
    rw [e]; exact h.cells i hi⟩, h.small⟩
theorem strsIn_abcd (w : World) : StrsIn (w.alloc (.cells #[.string { data := #[97] }, .string { data := #[98] }, .string { data := #[99] }, .string { data := #[100] }] 9)) (some ⟨w.heap.size, 0, none⟩) w.heap.size 4 abcd :=
  ⟨rfl, fun _ => rfl, by simp, fun j hj => by
    have hj4 : j < 4 := hj
    rcases (show j = 0 ∨ j = 1 ∨ j = 2 ∨ j = 3 by omega) with rfl | rfl | rfl | rfl <;> exact (World.cell?_alloc_at _ _ _ _ (by simp)).trans rfl, by
    have : ∀ s ∈ abcd, s.size = 1 := by decide
    intro s hs
    rw [this s hs]; unfold maxLen; omega⟩

/-- Few texts that lie in a block of the call's own. -/
def FourS (base : Nat) (w' : World) (v : Value) : Prop := ∃ g c n zs, v = .slice (some ⟨g, 0, none⟩) n c ∧ base ≤ g ∧ StrsIn w' (some ⟨g, 0, none⟩) g n zs ∧ n ≤ 4 ∧ ∀ z ∈ zs, z.size ≤ 4

set_option maxRecDepth 100000 in
set_option maxHeartbeats 4000000 in
theorem l91Four_any (base rb : Nat) (a : Option Addr) (n cap : Nat) (zs : List Int) (p : Nat) (w : World) (h : Rd base w rb a n cap zs p) (hp : p ≤ 80000) :
    Calls Try.prog 64 #[.pointer (some ⟨rb, 0, none⟩)] w fun e w' => (∃ v, e = .returned v ∧ FourS w.heap.size w' v) ∧ (∃ p', p' ≤ p + 300 ∧ Rd base w' rb a n cap zs p') ∧ Below base w w' := by
  obtain ⟨i0, hi, hz0, hz1, hz2⟩ := info_parts infoStr
  have hlo := h.lo
  have hrl := h.lt
  have H := Lib.hid (h.past ((Below.refl w.heap.size w).alloc (Nat.le_refl _) (.cells #[] 9)) hrl)
  clear h
  go_enter Try.func64, Try.ntmps64
  go_wp2
  go_loopw [3, 4] (fun v i wr => ∃ (k q g c : Nat) (ys : List ByteArray), v = .slice (some ⟨g, 0, none⟩) k c ∧ k ≤ 4 ∧ i = .int .i64 k ∧ q ≤ p + 61 * k ∧ w.heap.size ≤ g ∧ Hid (ys.length = k ∧ OwnS w.heap.size wr (.slice (some ⟨g, 0, none⟩) k c) ys ∧ (∀ y ∈ ys, y.size ≤ 4) ∧ Rd base wr rb a n cap zs q ∧ Below base w wr) ∧ w.heap.size < wr.heap.size) (fun _ i _ => 4 - (intOf i).toNat)
  case atStart => exact ⟨0, p, w.heap.size, 0, [], rfl, by omega, rfl, by omega, Nat.le_refl _, Lib.hid ⟨rfl, ownS_made2 w, by simp, H.out, ((Below.refl w.heap.size w).alloc (Nat.le_refl _) _).mono (by omega)⟩, by simp⟩
  case round =>
    obtain ⟨k, q, g, c, ys, rfl, hk, rfl, hq, hg, HH, hsz⟩ := hrel
    by_cases hlt : k < 4
    · have hli : (k : Int) < 4 := by omega
      go_wp2_with fail
      refine (l91Word_grown base rb a n cap zs q 3 3 wr HH.out.2.2.2.1 (by omega) (by omega) (by omega) (by omega)).mono ?_
      rintro e w5 ⟨⟨t, rfl, ht⟩, ⟨q5, hq5, hR5⟩, hB5, hG5⟩
      have HO := Lib.hid (HH.out.2.1.kept hG5 (by omega))
      have HR5 := Lib.hid hR5
      have HB5 := Lib.hid (HH.out.2.2.2.2.trans hB5)
      have HYL := Lib.hid HH.out.1
      have HYS := Lib.hid HH.out.2.2.1
      have hs5 := hG5.size
      have hrb5 := hR5.lt
      have hown := HO.out
      unfold OwnS at hown
      rw [HYL.out] at hown
      have HOW := Lib.hid hown
      clear hR5 hB5 hG5 hown
      go_wp2_with (at_builtin; refine wpList_append_lies _ rfl _ _ _ rfl w.heap.size 9 i0 _ 1 16 Try.underlying38 hi hz0 hz1 hz2 rfl (by omega) (.slice (some ⟨g, 0, none⟩) k c) k (strsV ys) rfl (HOW.out.alloc _) ⟨w5.heap.size, 0, none⟩ 1 1 [.string t] rfl rfl (World.news_of_block (cs := #[.string t]) (t := 9) (fr := (0, 0)) (heap_alloc_new w5 _)) (by simp [Value.oneCell']) (by omega) (by unfold maxLen; omega) (by omega) (by simp; omega) (w5.heap.size + 1) (by simp) ?_; intro gg cap1 w7 hown7 hgrow7 hat hlt7)
      have hgg : w.heap.size ≤ gg := (hown7.lt gg rfl).1
      have hB57 : Below w.heap.size w5 w7 := ((Below.refl w.heap.size w5).alloc (by omega) _).grown hgrow7 (by simp; omega) (ownsRow_low HOW.out)
      have HB7 := Lib.hid (HB5.out.trans (hB57.mono (by omega)))
      have HR7 := Lib.hid (HR5.out.past hB57 (by omega))
      have HO7 := Lib.hid hown7
      have hs7 := hB57.size
      clear hown7 hgrow7 hat hlt7 hB57
      go_wp2
      go_roundw
      case rel =>
        refine ⟨k + 1, q5, gg, cap1, ys ++ [t], rfl, by omega, by go_num, by omega, hgg, Lib.hid ⟨by rw [List.length_append, HYL.out]; rfl, ?_, ?_, HR7.out, HB7.out⟩, by omega⟩
        · unfold OwnS
          rw [List.length_append, HYL.out, show strsV (ys ++ [t]) = strsV ys ++ [.string t] by simp [strsV]]
          exact HO7.out
        · intro y hy
          rcases List.mem_append.1 hy with h | h
          · exact HYS.out y h
          · rw [List.mem_singleton.1 h]; exact ht
      case measure => simp [intOf]; omega
    · obtain rfl : k = 4 := by omega
      have HP := Lib.hid (pick_any base rb a n cap zs q 20 wr HH.out.2.2.2.1 (by omega) (by omega) (by omega))
      go_wp2_with fail
      refine HP.out.mono ?_
      rintro e w6 ⟨⟨z, rfl, hz⟩, hR6, hB6, hG6⟩
      have HO6 := Lib.hid (HH.out.2.1.kept hG6 (by omega))
      have hgl : g < w6.heap.size := (HO6.out.lt g rfl).2
      have HR6 := Lib.hid hR6
      have HB6 := Lib.hid (HH.out.2.2.2.2.trans hB6)
      have HYL := Lib.hid HH.out.1
      have hown := HO6.out
      unfold OwnS at hown
      rw [HYL.out] at hown
      have hcap := ownsRow_cap hown
      have hc3 : 3 ≤ c := by omega
      have hc3i : (3 : Int) ≤ (c : Int) := by omega
      have hcm := hcap.2.1
      unfold maxLen at hcm
      obtain ⟨q1, q2, q3⟩ := strsAt_of_owns HYL.out hown (fun z hz => by have := HH.out.2.2.1 z hz; unfold maxLen; omega)
      have HF : Hid (StrsIn w6 (some ⟨g, 0, none⟩) g 4 ys) := Lib.hid ⟨HYL.out, fun _ => rfl, q2, q3, q1.small⟩
      have HF3 : Hid (StrsIn w6 (some ⟨g, 0, none⟩) g 3 (ys.take 3)) := Lib.hid (HF.out.taken 3 (by omega))
      have HYS := Lib.hid HH.out.2.2.1
      clear hR6 hB6 hG6 hown hcap q1 q2 q3
      by_cases hz0 : z = 0
      · subst hz0
        go_wp2
        go_ret
        exact ⟨⟨_, rfl, g, _, 3, ys.take 3, rfl, hg, HF3.out, by omega, fun z hz => HYS.out z (List.mem_of_mem_take hz)⟩, ⟨_, by omega, HR6.out⟩, HB6.out⟩
      · have hzi : ((z : Int) == 0) = false := by simpa using hz0
        have hzn : ¬ (z : Int) = 0 := by omega
        go_wp2
        go_ret
        exact ⟨⟨_, rfl, g, _, 4, ys, rfl, hg, HF.out, by omega, HYS.out⟩, ⟨_, by omega, HR6.out⟩, HB6.out⟩

set_option maxRecDepth 100000 in
set_option maxHeartbeats 2000000 in
theorem drawWordPut_any (a : Option Addr) (n cap : Nat) (zs : List Int) (w : World) (h : BsAt w.heap.size w a n cap zs) :
    Calls Try.prog 35 #[.slice a n cap] w fun e w' => (∃ (s : ByteArray) (v : Value), e = .returned (.tuple #[.string s, v]) ∧ s.size ≤ 7 ∧ FourS w.heap.size w' v) ∧ Below w.heap.size w w' := by
  have HO := Lib.hid (open_any a n cap zs w h)
  clear h
  go_enter Try.func35, Try.ntmps35
  go_wp2_with fail
  refine HO.out.mono ?_
  rintro e w1 ⟨n', zs', rfl, hR1, hB1⟩
  have HR1 := Lib.hid hR1
  have HB1 := Lib.hid hB1
  clear hR1 hB1
  go_wp2_with fail
  refine (l91Word_any w.heap.size w.heap.size a n' cap zs' 0 6 3 w1 HR1.out (by omega) (by omega) (by omega) (by omega)).mono ?_
  rintro e w2 ⟨⟨s, rfl, hs⟩, ⟨p2, hp2, hR2⟩, hB2⟩
  have HR2 := Lib.hid hR2
  have HB2 := Lib.hid (HB1.out.trans hB2)
  have hs2 := (HB1.out.trans hB2).size
  clear hR2 hB2
  go_wp2_with fail
  refine (l91Four_any w.heap.size w.heap.size a n' cap zs' p2 w2 HR2.out (by omega)).mono ?_
  rintro e w3 ⟨⟨v, rfl, g, c, k, ys, rfl, hg, hS, hk, hys⟩, _, hB3⟩
  have HB3 := Lib.hid (HB2.out.trans hB3)
  have HS := Lib.hid hS
  have HYS := Lib.hid hys
  clear hB3 hS hys
  go_wp2
  go_ret2
  exact ⟨⟨s, _, rfl, by omega, g, c, k, ys, rfl, by omega, HS.out, hk, HYS.out⟩, HB3.out⟩

end Go.Proofs.Ytjmjkfoibmbnhaa

/- What the laws' proofs stand on, part 2 of 3. -/
import Derived.WalkLawsBesides
import Derived.Laws.AppendOwnNone
import Derived.Lib.AppendZerosOnto
import Derived.Lib.SliceRun
import Derived.StillTail
import Derived.Deep.AppendLies
import Derived.IntWalk
import Derived.Shelf.RegionOpenPlain
import Derived.RangeFuncBox
import Derived.RangeFuncNested
import Derived.WalkMore
import Derived.Laws.BitsAllLaws
import Derived.Deep.QuietTactic
import Derived.BigQuiet
import Derived.ChangeSlices
import Derived.Test.YtdhmicpoigoleaaBa

/- The contracts of the model's 'l5Text', 'l5Lyndon' and 'LyndonIn'. -/

namespace Go.Proofs.Ytdhmicpoigoleaa
open Go.RowKit

/-- At most twelve generators. -/
def text12 (s : ByteArray) : Bool := s.data.toList.all genB && decide (s.size ≤ 12)
/-- Less than each of its ends. -/
def lynL (l : List UInt8) : Bool := decide (0 < l.length) && (List.range (l.length - 1)).all fun i => Op.bytesLess l (l.drop (i + 1))
def lynB (s : ByteArray) : Bool := text12 s && lynL s.data.toList
theorem text12_false (s : ByteArray) (k : Nat) (hk : k < s.data.toList.length) (h : genB s.data.toList[k] = false) : text12 s = false := by
  unfold text12; rw [List.all_eq_false.2 ⟨_, List.getElem_mem hk, by rw [h]; exact Bool.false_ne_true⟩]; rfl

set_option maxRecDepth 100000 in
set_option maxHeartbeats 1000000 in
theorem sText_is (s : ByteArray) (b : Bool) (w : World) (hs : s.size ≤ maxLen) (hb : text12 s = b) :
    Calls Try.prog 50 #[.string s] w fun e w' => e = .returned (.bool b) ∧ w = w' := by
  have HB := Lib.hid hb
  unfold maxLen at hs
  clear hb
  go_enter Try.func50, Try.ntmps50
  go_wp2
  go_loopw [3] (fun i wr => ∃ k : Nat, k ≤ s.size ∧ i = .int .i64 k ∧ Hid ((s.data.toList.take k).all genB = true) ∧ w = wr) (fun i _ => s.size - (intOf i).toNat)
  case atStart => exact ⟨0, Nat.zero_le _, rfl, Lib.hid rfl, rfl⟩
  case round =>
    obtain ⟨k, hk, rfl, HG, rfl⟩ := hrel
    by_cases hlt : k < s.size
    · have hl : k < s.data.toList.length := by simpa using hlt
      have hstep : (s.data.toList.take (k + 1)).all genB = genB s[k] := by rw [take_snoc _ k hl, List.all_append, HG.out, Bool.true_and]; simp; rfl
      have HS := Lib.hid hstep
      have HF : Hid (genB s[k] = false → b = false) := Lib.hid fun h => by rw [← HB.out]; exact text12_false s k hl h
      clear hstep
      by_cases h1 : 97 ≤ s[k].toNat
      · by_cases h2 : s[k].toNat ≤ 100
        · have hg : genB s[k] = true := by unfold genB; rw [decide_eq_true h1, decide_eq_true h2]; rfl
          have HGT := Lib.hid hg
          clear hg
          go_wp2_with fail
          go_roundw
          case rel => exact ⟨k + 1, by omega, by go_num, Lib.hid (by rw [HS.out]; exact HGT.out), trivial⟩
          case measure => simp [intOf]; omega
        · have hg : genB s[k] = false := by unfold genB; rw [decide_eq_false h2, Bool.and_false]
          have hbf := HF.out hg
          clear hg
          subst hbf
          go_wp2_with fail
          go_ret
          exact ⟨rfl, rfl⟩
      · have hg : genB s[k] = false := by unfold genB; rw [decide_eq_false h1]; rfl
        have hbf := HF.out hg
        clear hg
        subst hbf
        go_wp2_with fail
        go_ret
        exact ⟨rfl, rfl⟩
    · have hall : s.data.toList.all genB = true := by rw [← HG.out, List.take_of_length_le (by simp; omega)]
      have hbb : decide (s.size ≤ 12) = b := by rw [← HB.out]; unfold text12; rw [hall, Bool.true_and]
      have HBB := Lib.hid hbb
      clear hbb hall
      go_wp2_with fail
      go_ret
      exact ⟨ret_bool (by rw [← HBB.out]; exact decide_eq_decide.2 (by omega)), rfl⟩

theorem extract_drop (s : ByteArray) (i : Nat) : (s.extract i s.size).toList = s.data.toList.drop i := by
  rw [ByteArray.toList_eq, Lib.extract_data]
  apply List.take_of_length_le
  rw [List.length_drop]
  have : s.data.toList.length = s.size := by simp
  omega

/-- How the end from i on compares. -/
theorem end_cmp {s : ByteArray} {i : Nat} (hi : 0 < i) (hs : 0 < s.size) {r : Bool} (h : Op.bytesLess s.data.toList (s.data.toList.drop i) = r) :
    Op.bytesLess (s.extract i s.size).toList s.toList = !r ∧ ((s.extract i s.size).toList == s.toList) = false := by
  rw [extract_drop, ByteArray.toList_eq]
  have hne : s.data.toList.drop i ≠ s.data.toList := fun e => by
    have h1 := congrArg List.length e
    have h2 : s.data.toList.length = s.size := by simp
    rw [List.length_drop] at h1
    omega
  refine ⟨?_, by simpa using hne⟩
  cases r with
  | true =>
    cases h2 : Op.bytesLess (s.data.toList.drop i) s.data.toList with
    | false => rfl
    | true => have := bl_trans _ _ _ h h2; rw [bl_irrefl] at this; cases this
  | false =>
    cases h2 : Op.bytesLess (s.data.toList.drop i) s.data.toList with
    | true => rfl
    | false => exact absurd (bl_tri _ _ h2 h) hne

set_option maxRecDepth 100000 in
set_option maxHeartbeats 1000000 in
theorem sLyn_is (s : ByteArray) (b : Bool) (w : World) (hs : s.size ≤ maxLen) (hb : lynL s.data.toList = b) :
    Calls Try.prog 51 #[.string s] w fun e w' => e = .returned (.bool b) ∧ w = w' := by
  have HB := Lib.hid hb
  have hln : s.data.toList.length = s.size := by simp
  have HL := Lib.hid hln
  unfold maxLen at hs
  clear hb hln
  go_enter Try.func51, Try.ntmps51
  go_wp2
  go_loopw [3] (fun i wr => ∃ k : Nat, (k ≤ s.size - 1) ∧ i = .int .i64 ((k + 1 : Nat) : Int) ∧ Hid ((List.range k).all (fun i => Op.bytesLess s.data.toList (s.data.toList.drop (i + 1))) = true) ∧ w = wr) (fun i _ => s.size - (intOf i).toNat)
  case atStart => exact ⟨0, Nat.zero_le _, rfl, Lib.hid rfl, rfl⟩
  case round =>
    obtain ⟨k, hk, rfl, HG, rfl⟩ := hrel
    by_cases hlt : k + 1 < s.size
    · have hlt1 : (k : Int) + 1 < s.size := by omega
      have hge1 : 0 ≤ (k : Int) + 1 := by omega
      have hle1 : (k : Int) + 1 ≤ s.size := by omega
      cases hq : Op.bytesLess s.data.toList (s.data.toList.drop (k + 1)) with
      | true =>
        obtain ⟨hq2, hq3⟩ := end_cmp (by omega) (by omega) hq
        have HQ := Lib.hid hq
        clear hq
        go_wp2_with fail
        go_roundw
        case rel => exact ⟨k + 1, by omega, by go_num, Lib.hid (by rw [List.range_succ, List.all_append, HG.out, Bool.true_and]; simp [HQ.out]), trivial⟩
        case measure => simp [intOf]; omega
      | false =>
        obtain ⟨hq2, hq3⟩ := end_cmp (by omega) (by omega) hq
        have hbf : b = false := by
          rw [← HB.out]
          unfold lynL
          rw [List.all_eq_false.2 ⟨k, List.mem_range.2 (by rw [HL.out]; omega), by rw [hq]; exact Bool.false_ne_true⟩, Bool.and_false]
        subst hbf
        clear hq
        go_wp2_with fail
        go_ret
        exact ⟨rfl, rfl⟩
    · have hall : (List.range (s.data.toList.length - 1)).all (fun i => Op.bytesLess s.data.toList (s.data.toList.drop (i + 1))) = true := by
        rw [HL.out, show s.size - 1 = k by omega]; exact HG.out
      have hbb : decide (0 < s.size) = b := by rw [← HB.out]; unfold lynL; rw [hall, Bool.and_true, HL.out]
      have HBB := Lib.hid hbb
      have hlt1 : ¬ (k : Int) + 1 < s.size := by omega
      clear hbb hall
      go_wp2_with fail
      go_ret
      exact ⟨ret_bool (by rw [← HBB.out]), rfl⟩

theorem sLyndonIn_is (s : ByteArray) (b : Bool) (w : World) (hs : s.size ≤ maxLen) (hb : lynB s = b) :
    Calls Try.prog 22 #[.string s] w fun e w' => e = .returned (.bool b) ∧ w = w' := by
  obtain ⟨b1, h1⟩ : ∃ b1, text12 s = b1 := ⟨_, rfl⟩
  obtain ⟨b2, h2⟩ : ∃ b2, lynL s.data.toList = b2 := ⟨_, rfl⟩
  have hbb : (b1 && b2) = b := by rw [← h1, ← h2]; exact hb
  have H1 := Lib.hid h1
  have H2 := Lib.hid h2
  have HB := Lib.hid hbb
  clear h1 h2 hb hbb
  cases b1 with
  | false =>
    obtain rfl : false = b := HB.out
    go_enter Try.func22, Try.ntmps22
    go_wp2_with fail
    refine (sText_is s false _ hs H1.out).mono ?_
    rintro e w1 ⟨rfl, rfl⟩
    go_wp2
    go_ret
    exact ⟨rfl, rfl⟩
  | true =>
    obtain rfl : b2 = b := HB.out
    go_enter Try.func22, Try.ntmps22
    go_wp2_with fail
    refine (sText_is s true _ hs H1.out).mono ?_
    rintro e w1 ⟨rfl, rfl⟩
    go_wp2_with fail
    refine (sLyn_is s b2 _ hs H2.out).mono ?_
    rintro e w1 ⟨rfl, rfl⟩
    go_wp2
    go_ret
    exact ⟨rfl, rfl⟩

end Go.Proofs.Ytdhmicpoigoleaa

/- The contracts of the laws' own helpers that mark memory and look the marks up. -/

namespace Go.Proofs.Ytdhmicpoigoleaa
open Go.RowKit Go.Shelf

/-- A term is stored: its two cells. -/
theorem set_terms (us : List Tm) (i : Nat) (t : Tm) (hi : i < us.length) : ((termsV us).set (i * 2) (.int .i64 t.c)).set (i * 2 + 1) (.string t.s) = termsV (us.set i t) := by
  have e : us = us.take i ++ us[i] :: us.drop (i + 1) := by rw [List.getElem_cons_drop]; exact (List.take_append_drop i us).symm
  have hl : (termsV (us.take i)).length = i * 2 := by rw [termsV_len, List.length_take, Nat.min_eq_left (by omega)]
  have hset : us.set i t = us.take i ++ t :: us.drop (i + 1) := by rw [List.set_eq_take_append_cons_drop, if_pos hi]
  rw [hset]
  have e2 : termsV us = termsV (us.take i) ++ .int .i64 us[i].c :: .string us[i].s :: termsV (us.drop (i + 1)) := by
    rw [← termsV_cons, ← termsV_append, ← e]
  rw [e2, termsV_append, termsV_cons, List.set_append_right _ _ (by omega), List.set_append_right _ _ (by omega), hl, Nat.sub_self, show i * 2 + 1 - i * 2 = 1 by omega]
  rfl

/-- The text of a mark. -/
def mkB (m : Nat) (t : ByteArray) : ByteArray :=
  if _h : m = 0 then t else mkB (m / 10) (⟨#[UInt8.ofNat (48 + m % 10)]⟩ ++ t)
termination_by m
decreasing_by omega
theorem mkB_zero (t : ByteArray) : mkB 0 t = t := by rw [mkB]; simp
theorem mkB_step {m : Nat} (h : m ≠ 0) (t : ByteArray) : mkB (m / 10) (⟨#[UInt8.ofNat (48 + m % 10)]⟩ ++ t) = mkB m t := by conv => rhs; rw [mkB, dif_neg h]
def mkS (k : Nat) : ByteArray := ⟨#[109]⟩ ++ mkB k ⟨#[]⟩

set_option maxRecDepth 100000 in
set_option maxHeartbeats 1000000 in
theorem markText_any (k : Nat) (w : World) (hk0 : 0 < k) (hk : k ≤ 100000000) :
    Calls Try.prog 57 #[.int .i64 k] w fun e w' => e = .returned (.string (mkS k)) ∧ Below w.heap.size w w' := by
  have hk1 : ¬ k = 0 := by omega
  have hk2 : decide (k = 0) = false := decide_eq_false hk1
  go_enter Try.func57, Try.ntmps57
  go_wp2
  go_loopw [0, 3] (fun p s wr => ∃ (m : Nat) (t : ByteArray), p = .int .i64 m ∧ s = .string t ∧ Hid (mkB m t = mkB k ⟨#[]⟩) ∧ t.size + m ≤ k ∧ Hid (Below w.heap.size w wr)) (fun p _ _ => (intOf p).toNat)
  case atStart => exact ⟨k, ⟨#[]⟩, rfl, rfl, Lib.hid rfl, Nat.le_of_eq (Nat.zero_add k), Lib.hid (Below.refl _ _)⟩
  case round =>
    obtain ⟨m, t, rfl, rfl, HM, hsz, HB⟩ := hrel
    by_cases hm : m = 0
    · subst hm
      go_wp2
      go_ret
      refine ⟨?_, HB.out⟩
      rw [mkS, ← HM.out, mkB_zero]
      rfl
    · have hm0 : 0 < m := by omega
      have hlt : m % 10 < 10 := Nat.mod_lt _ (by omega)
      have hval : ((UInt8.ofNat (48 + m % 10)).toNat : Int) = 48 + (m : Int) % 10 := by
        rw [UInt8.toNat_ofNat']
        rw [Nat.mod_eq_of_lt (by omega)]
        omega
      have hconv : (convert 39 9 (.slice (some ⟨wr.heap.size, 0, none⟩) 1 1)).run Try.prog (wr.alloc (.cells #[.int .u8 (48 + (m : Int) % 10)] 5)) = .ok (.string ⟨#[UInt8.ofNat (48 + m % 10)]⟩) (wr.alloc (.cells #[.int .u8 (48 + (m : Int) % 10)] 5)) := by
        have := run_convert_bytes_back (P := Try.prog) (wr.alloc (.cells #[.int .u8 (48 + (m : Int) % 10)] 5)) 39 9 5 ⟨wr.heap.size, 0, none⟩ 1 [UInt8.ofNat (48 + m % 10)] Try.underlying39 Try.underlying5 Try.underlying9 (fun j hj => by
          have hj0 : j = 0 := by simp at hj; exact hj
          subst hj0
          show (wr.alloc _).cell? ((⟨wr.heap.size, 0, none⟩ : Addr).add 0) = some (.int .u8 ((UInt8.ofNat (48 + m % 10)).toNat : Int))
          rw [hval]
          exact cell_one_new _ _ _ 0 _ rfl)
        exact this
      have hrange : 0 ≤ 48 + (m : Int) % 10 ∧ 48 + (m : Int) % 10 ≤ 255 := by omega
      have hsz2 : ((⟨#[UInt8.ofNat (48 + m % 10)]⟩ : ByteArray) ++ t).size = 1 + t.size := by simp [ByteArray.size_append]; rfl
      obtain ⟨c, hc⟩ : ∃ c : ByteArray, (⟨#[UInt8.ofNat (48 + m % 10)]⟩ : ByteArray) = c := ⟨_, rfl⟩
      rw [hc] at hconv hsz2
      have HCC := Lib.hid hc
      have HVAL := Lib.hid hval
      have HSZ2 := Lib.hid hsz2
      have hcs : c.size = 1 := by rw [← hc]; rfl
      have hnot : ¬ 9223372036854775807 < c.size + t.size := by omega
      clear hc hval hsz2 hcs
      go_wp2
      go_roundw
      case rel =>
        refine ⟨m / 10, c ++ t, by go_num, rfl, Lib.hid ?_, by rw [HSZ2.out]; omega, Lib.hid (HB.out.alloc HB.out.size _)⟩
        rw [← HM.out, ← HCC.out]
        exact mkB_step hm t
      case measure => simp [intOf]; omega

end Go.Proofs.Ytdhmicpoigoleaa

/- The contracts of the laws' 'markTermS' and 'heldTermS'. -/

namespace Go.Proofs.Ytdhmicpoigoleaa
open Go.RowKit Go.Shelf

def markT (k i : Nat) : Tm := ⟨((k + 2 * i : Nat) : Int), mkS (k + 2 * i + 1)⟩
/-- The marks from k on. -/
def marksT (k n : Nat) : List Tm := (List.range n).map (markT k)
theorem marksT_len (k n : Nat) : (marksT k n).length = n := by simp [marksT]
theorem marksT_get (k n i : Nat) (h : i < (marksT k n).length) : (marksT k n)[i] = markT k i := by simp [marksT]
theorem marksT_set (k j n : Nat) (us : List Tm) (hl : us.length = n) (hj : j < n) : (marksT k j ++ us.drop j).set j (markT k j) = marksT k (j + 1) ++ us.drop (j + 1) := by
  rw [List.set_append_right _ _ (by rw [marksT_len]; exact Nat.le_refl _), marksT_len, Nat.sub_self, List.drop_eq_getElem_cons (by omega : j < us.length), List.set_cons_zero]
  unfold marksT
  rw [List.range_succ, List.map_append, List.append_assoc]
  rfl

theorem ownsRow_past {w w' : World} {base : Nat} {e : TypeId} {size : Nat} {v : Value} {n : Nat} {xs : List Value} (h : w.ownsRow base e size v n xs) (hb : Below w.heap.size w w') : w'.ownsRow base e size v n xs :=
  h.kept ⟨hb.os, hb.tape, hb.output, hb.size, fun j hj _ => hb.block j hj⟩ (row := none) (by
    rcases h.2 with ⟨rfl, _⟩ | ⟨g, cap, cur, rfl, _⟩
    · exact .inl rfl
    · exact .inr (by simp [Value.ownBlock]))
theorem marksT_row (k j n : Nat) (us : List Tm) (hl : us.length = n) (hj : j < n) :
    ((termsV (marksT k j ++ us.drop j)).set (j * 2) (.int .i64 ((k + 2 * j : Nat) : Int))).set (j * 2 + 1) (.string (mkS (k + 2 * j + 1))) = termsV (marksT k (j + 1) ++ us.drop (j + 1)) := by
  rw [← marksT_set k j n us hl hj]
  exact set_terms _ j (markT k j) (by rw [List.length_append, marksT_len, List.length_drop]; omega)

theorem grown_trans {a b c : World} {row : Option Nat} (h : a.grownBy b row) (k : b.grownBy c row) : a.grownBy c row :=
  ⟨k.os.trans h.os, k.tape.trans h.tape, k.output.trans h.output, Nat.le_trans h.size k.size, fun i hi hne => (k.block i (Nat.lt_of_lt_of_le hi h.size) hne).trans (h.block i hi hne)⟩
theorem grown_refl (a : World) (row : Option Nat) : a.grownBy a row := ⟨rfl, rfl, rfl, Nat.le_refl _, fun _ _ _ => rfl⟩
theorem grown_below {a b : World} (row : Option Nat) (h : Below a.heap.size a b) : a.grownBy b row := ⟨h.os, h.tape, h.output, h.size, fun i hi _ => h.block i hi⟩
theorem mkB_size : ∀ (m : Nat) (t : ByteArray), (mkB m t).size ≤ t.size + m := by
  intro m
  induction m using Nat.strongRecOn with
  | _ m ih =>
    intro t
    by_cases h : m = 0
    · subst h; rw [mkB_zero]; exact Nat.le_refl _
    · rw [← mkB_step h]
      have h1 := ih (m / 10) (by omega) (⟨#[UInt8.ofNat (48 + m % 10)]⟩ ++ t)
      have h2 : ((⟨#[UInt8.ofNat (48 + m % 10)]⟩ : ByteArray) ++ t).size = 1 + t.size := by simp [ByteArray.size_append]; rfl
      omega
theorem mkS_size (k : Nat) : (mkS k).size ≤ k + 1 := by
  have h := mkB_size k ⟨#[]⟩
  have h0 : (⟨#[]⟩ : ByteArray).size = 0 := rfl
  have h1 : (mkS k).size = 1 + (mkB k ⟨#[]⟩).size := by unfold mkS; simp [ByteArray.size_append]; rfl
  omega
theorem marksT_small (k n : Nat) (hk : k ≤ 1000000) (hn : n ≤ 1048576) : SmallT (marksT k n) :=
  ⟨by rw [marksT_len]; unfold maxLen; omega, fun t ht => by
    unfold marksT at ht
    obtain ⟨i, hi, rfl⟩ := List.mem_map.1 ht
    have hi := List.mem_range.1 hi
    have := mkS_size (k + 2 * i + 1)
    unfold markT maxLen
    dsimp only
    omega⟩

def marksS (k n : Nat) : List ByteArray := (List.range n).map fun i => mkS (k + i)
theorem marksS_len (k n : Nat) : (marksS k n).length = n := by simp [marksS]
theorem marksS_set (k j n : Nat) (us : List ByteArray) (hl : us.length = n) (hj : j < n) : (strsV (marksS k j ++ us.drop j)).set j (.string (mkS (k + j))) = strsV (marksS k (j + 1) ++ us.drop (j + 1)) := by
  have h1 : (marksS k j ++ us.drop j).set j (mkS (k + j)) = marksS k (j + 1) ++ us.drop (j + 1) := by
    rw [List.set_append_right _ _ (by rw [marksS_len]; exact Nat.le_refl _), marksS_len, Nat.sub_self, List.drop_eq_getElem_cons (by omega : j < us.length), List.set_cons_zero]
    unfold marksS
    rw [List.range_succ, List.map_append, List.append_assoc]
    rfl
  rw [← h1]
  unfold strsV
  rw [List.map_set]
def OwnS (base : Nat) (w : World) (v : Value) (zs : List ByteArray) : Prop := w.ownsRow base 9 1 v zs.length (strsV zs)
theorem OwnS.below {base : Nat} {w w' : World} {v : Value} {zs : List ByteArray} (h : OwnS base w v zs) (hb : Below w.heap.size w w') : OwnS base w' v zs := ownsRow_past h hb

set_option maxRecDepth 100000 in
set_option maxHeartbeats 2000000 in
theorem markStringS_any (base k : Nat) (v : Value) (us : List ByteArray) (w : World) (h : OwnS base w v us) (hn : us.length ≤ 1048576) (hk0 : 0 < k) (hk : k ≤ 10000000) :
    Calls Try.prog 26 #[v, .int .i64 k] w fun e w' => e = .returned (.int .i64 ((k + us.length : Nat) : Int)) ∧ OwnS base w' v (marksS k us.length) ∧ w.grownBy w' v.ownBlock := by
  obtain ⟨a, cap, rfl⟩ : ∃ a cap, v = .slice a us.length cap := by
    rcases h.2 with ⟨rfl, h0⟩ | ⟨g, cap, cur, rfl, _⟩
    · exact ⟨none, 0, by rw [h0]⟩
    · exact ⟨_, _, rfl⟩
  obtain ⟨n, hl⟩ : ∃ n, us.length = n := ⟨_, rfl⟩
  unfold OwnS at h ⊢
  rw [hl] at h hn ⊢
  rw [marksS_len]
  have HH := Lib.hid h
  have HL := Lib.hid hl
  clear h hl
  go_enter Try.func26, Try.ntmps26
  go_wp2
  go_loopw [1, 5] (fun q i wr => ∃ j : Nat, j ≤ n ∧ q = .int .i64 ((k + j : Nat) : Int) ∧ i = .int .i64 j ∧ Hid (wr.ownsRow base 9 1 (.slice a n cap) n (strsV (marksS k j ++ us.drop j))) ∧ Hid (w.grownBy wr (Value.slice a n cap).ownBlock)) (fun _ i _ => n - (intOf i).toNat)
  case atStart => exact ⟨0, Nat.zero_le _, rfl, rfl, Lib.hid (by simpa [marksS] using HH.out), Lib.hid (grown_refl _ _)⟩
  case round =>
    obtain ⟨j, hj, rfl, rfl, HR, HB⟩ := hrel
    by_cases hlt : j < n
    · obtain ⟨g, rfl, hg⟩ : ∃ g, a = some ⟨g, 0, none⟩ ∧ base ≤ g := by
        rcases HR.out.2 with ⟨_, e1⟩ | ⟨g, cap1, cur, e0, hg, _⟩
        · omega
        · simp only [Value.slice.injEq] at e0; exact ⟨g, e0.1, hg⟩
      obtain ⟨m, hm⟩ : ∃ m, k + j = m := ⟨_, rfl⟩
      have hm1 : m ≤ 20000000 := by omega
      have hm0 : 0 < m := by omega
      rw [hm]
      have HM := Lib.hid hm
      clear hm
      go_wp2_with fail
      refine (markText_any m _ (by omega) (by omega)).mono ?_
      rintro e w4 ⟨rfl, hb4⟩
      have hr4 := ownsRow_past HR.out hb4
      have hxl : (strsV (marksS k j ++ us.drop j)).length = n := by rw [strsV_len, List.length_append, marksS_len, List.length_drop, HL.out]; omega
      have hd1 : ∃ u, w4.cell? ⟨g, j, none⟩ = some u := by rw [hr4.cellAt _ (by omega)]; exact ⟨_, List.getElem?_eq_getElem (by omega)⟩
      obtain ⟨u1, hu1⟩ := hd1
      have hf1 := hr4.frozenAt j
      have HR4 := Lib.hid hr4
      have HB4 := Lib.hid (grown_trans HB.out (grown_below _ hb4))
      clear hr4 hb4 hxl
      go_wp2
      go_roundw
      case rel =>
        refine ⟨j + 1, by omega, by have := HM.out; go_num, by go_num, Lib.hid ?_, Lib.hid (grown_trans HB4.out (HR4.out.stored j (.string (mkS m))).2)⟩
        rw [← marksS_set k j n us HL.out hlt, HM.out]
        exact (HR4.out.stored j (.string (mkS m))).1
      case measure => simp [intOf]; omega
    · obtain rfl : j = n := by omega
      go_wp2
      go_ret
      refine ⟨rfl, ?_, HB.out⟩
      have := HR.out
      rw [List.drop_of_length_le (by rw [HL.out]; exact Nat.le_refl _), List.append_nil] at this
      exact this

end Go.Proofs.Ytdhmicpoigoleaa

/- The contracts of slices.Grow and slices.Concat at terms. -/

namespace Go.Proofs.Ytdhmicpoigoleaa
open Go.RowKit Go.Shelf

theorem ownsRow_low {W : World} {base : Nat} {e : TypeId} {size : Nat} {v : Value} {n : Nat} {xs : List Value} (h : W.ownsRow base e size v n xs) : ∀ j, v.ownBlock = some j → base ≤ j := fun j ej => (h.lt j ej).1

/-- A slice of terms that may be nil. -/
def PartT (w : World) (v : Value) (ts : List Tm) : Prop := (v = .slice none 0 0 ∧ ts = []) ∨ ∃ x cap, v = .slice (some x) ts.length cap ∧ ∀ j u, (termsV ts)[j]? = some u → w.cell? (x.add j) = some u ∧ x.block < w.heap.size
theorem PartT.below {w w' : World} {v : Value} {ts : List Tm} (h : PartT w v ts) (hb : Below w.heap.size w w') : PartT w' v ts := by
  rcases h with h | ⟨x, cap, e, h⟩
  · exact .inl h
  · exact .inr ⟨x, cap, e, fun j u hu => by
      obtain ⟨h1, h2⟩ := h j u hu
      exact ⟨(hb.cell (p := x.add j) (by rw [addr_add_block]; exact h2)).trans h1, Nat.lt_of_lt_of_le h2 hb.size⟩⟩
theorem partT_of {w : World} {ad : Addr} {n cap : Nat} {ts : List Tm} (h : IsTerms w (some ad) n ts) : PartT w (.slice (some ad) n cap) ts := by
  refine .inr ⟨ad, cap, by rw [h.len], fun j u hu => ?_⟩
  rcases Nat.eq_zero_or_pos n with h0 | h0
  · have : ts = [] := List.length_eq_zero_iff.1 (h.len.trans h0)
    subst this
    simp [termsV] at hu
  · obtain ⟨z, e, h2⟩ := h.at_ h0
    cases e
    exact ⟨h2.cells j u hu, h2.1⟩
theorem PartT.len {w : World} {v : Value} {ts : List Tm} (h : PartT w v ts) : ∃ a cap, v = .slice a ts.length cap := by
  rcases h with ⟨rfl, rfl⟩ | ⟨x, cap, e, _⟩
  · exact ⟨_, _, rfl⟩
  · exact ⟨_, _, e⟩

def lens (ps : List (Value × List Tm)) : Nat := (ps.map fun p => p.2.length).sum
def flatT (ps : List (Value × List Tm)) : List Tm := (ps.map Prod.snd).flatten
theorem lens_succ (ps : List (Value × List Tm)) (k : Nat) (h : k < ps.length) : lens (ps.take (k + 1)) = lens (ps.take k) + ps[k].2.length := by
  unfold lens
  rw [List.take_succ_eq_append_getElem h, List.map_append, List.sum_append]; simp
theorem flatT_succ (ps : List (Value × List Tm)) (k : Nat) (h : k < ps.length) : flatT (ps.take (k + 1)) = flatT (ps.take k) ++ ps[k].2 := by
  unfold flatT
  rw [List.take_succ_eq_append_getElem h, List.map_append, List.flatten_append]; simp
theorem flatT_len (ps : List (Value × List Tm)) : (flatT ps).length = lens ps := by
  unfold flatT lens
  rw [List.length_flatten, List.map_map]; rfl
theorem lens_take (ps : List (Value × List Tm)) (k : Nat) : lens (ps.take k) ≤ lens ps := by
  have h : lens ps = lens (ps.take k) + lens (ps.drop k) := by
    conv => lhs; rw [← List.take_append_drop k ps]
    unfold lens
    rw [List.map_append, List.sum_append]
  omega

end Go.Proofs.Ytdhmicpoigoleaa

/- A drawn region whose head makes memory but has fixed values, and whose tail comes in one order only. -/

namespace Go.Proofs.Ytdhmicpoigoleaa
open Go.RowKit

section
variable {P : Program} {ops : Array Oper} {md : Region.Mode} {C : World → Prop}

/-- The head in whatever order, up to the place where L holds. -/
def headQ (P : Program) (md : Region.Mode) (ops : Array Oper) (C : World → Prop) (n : Nat) (L : Array Bool → Act → Prop) : Nat → Array Bool → Act → Prop
  | 0, listed, a => L listed a
  | f + 1, listed, a => Region.ready md ops listed ≠ [] ∧ ∀ i ∈ Region.ready md ops listed, i < n ∧ qOp P ops C i (headQ P md ops C n L f (listed.setIfInBounds i true)) a

theorem wpAny_headQ {n g : Nat} {L : Array Bool → Act → Prop} {Q' : Exit → Act → World → Prop} (hL : ∀ listed a w, C w → L listed a → wpAny P md ops Q' g listed a w) :
    ∀ (f : Nat) (listed : Array Bool) (a : Act) (w : World), C w → headQ P md ops C n L f listed a → wpAny P md ops Q' (f + g) listed a w
  | 0, _, _, _, hw, h => by rw [Nat.zero_add]; exact hL _ _ _ hw h
  | f + 1, listed, a, w, hw, h => by
    rw [Nat.succ_add]
    exact ⟨fun h0 => absurd h0 h.1, fun i hi => wpOp_of_qOp hw (fun a' w' hw' h' => wpAny_headQ hL f _ a' w' hw' h') (h.2 i hi).2⟩

theorem headQ_first {n i : Nat} {oi : Oper} {v : Value} {L : Array Bool → Act → Prop} (hi : ops[i]? = some oi) (hsel : ∀ (j : Nat) (o : Oper) cs b, ops[j]? = some o → o.op ≠ .select cs b)
    (hs : Region.sinkB md ops n = true) (hc : Region.chainB md ops n = true) (hn : n < ops.size) (hin : i < n) (hdone : ∀ listed a, L listed a → ∀ j ∈ Region.ready md ops listed, n ≤ j) :
    ∀ (f : Nat) (listed : Array Bool) (a : Act), HeadInv md ops n listed →
      (∀ j oj, ops[j]? = some oj → j ≠ i → listed.getD j true = false → (∀ e ∈ oj.after, Region.binds md e = true → e.on ≠ i) → oi.apart ops oj = true) →
      i ∈ Region.ready md ops listed → YieldsIn P ops C oi v a →
      headQ P md ops C n L f (listed.setIfInBounds i true) (a.put oi.dst v) → headQ P md ops C n L (f + 1) listed a := by
  intro f
  induction f with
  | zero =>
    intro listed a inv _ hr hy H
    refine ⟨fun h => (by rw [h] at hr; cases hr), fun j hj => ?_⟩
    have hjn : j < n := Nat.lt_of_not_le fun h => tail_waits hs hc hn inv _ i rfl hin (mem_ready.1 hr).1 j h hj
    refine ⟨hjn, ?_⟩
    by_cases hji : j = i
    · subst hji; exact hy.qOp hi H
    · exact absurd (hdone _ _ H j (ready_mono hj hji)) (by omega)
  | succ f ih =>
    intro listed a inv hfree hr hy H
    have hun := (mem_ready.1 hr).1
    refine ⟨fun h => (by rw [h] at hr; cases hr), fun j hj => ?_⟩
    have hjn : j < n := Nat.lt_of_not_le fun h => tail_waits hs hc hn inv _ i rfl hin hun j h hj
    refine ⟨hjn, ?_⟩
    by_cases hji : j = i
    · subst hji; exact hy.qOp hi H
    · obtain ⟨hjun, oj, hoj, hall⟩ := mem_ready.1 hj
      have hnot : ∀ e ∈ oj.after, Region.binds md e = true → e.on ≠ i := fun e he hb heq => by
        have h1 := hall e he hb
        rw [heq, getD_both hun] at h1
        cases h1
      have h2 := qOp_put hoj (hfree j oj hoj hji hjun hnot) (fun cs b => hsel i oi cs b hi) (fun cs b => hsel j oj cs b hoj) hy (H.2 j (ready_mono hj hji)).2
      refine qOp_mono (fun a' h3 => ih _ a' (inv.set hj hjn) (fun k ok hk hki hu hno => hfree k ok hk hki ?_ hno) (ready_mono hr (Ne.symm hji)) h3.1 ?_) h2
      · by_cases hjk : j = k
        · subst hjk; exact hjun
        · rw [getD_set_ne true hjk] at hu; exact hu
      · rw [Array.setIfInBounds_comm _ _ hji]
        exact h3.2

theorem headQ_lex {n g : Nat} {Lq : Act → Prop} (hsel : Region.noSelect ops = true) (hs : Region.sinkB md ops n = true) (hc : Region.chainB md ops n = true) (hn : n < ops.size) :
    ∀ (l : List Oper) (k : Nat) (listed : Array Bool) (a : Act), (∀ j, j < l.length → l[j]? = ops[k + j]?) → k + l.length = n → HeadInv md ops n listed →
    Region.lexHead md ops g l.length k listed = true → wpQuiet P ops C Lq l a → headQ P md ops C n (fun listed' a' => Region.seqB md ops g n listed' = true ∧ Lq a') l.length listed a
  | [], k, listed, a, _, hk, _, hB, h => by
    obtain rfl : k = n := by simpa using hk
    exact ⟨by simpa [Region.lexHead] using hB, h⟩
  | o :: l, k, listed, a, hl, hk, inv, hB, h => by
    have h0 : ops[k]? = some o := by simpa using (hl 0 (by simp)).symm
    simp only [List.length_cons, Region.lexHead, Bool.and_eq_true] at hB
    have hkn : k < n := by simp only [List.length_cons] at hk; omega
    have hr' : k ∈ Region.ready md ops listed := by simpa using hB.1.1
    have hst : qOp P ops C k (wpQuiet P ops C Lq l) a := by unfold qOp; simp only [h0]; exact h
    obtain ⟨v, hy, hK⟩ := yieldsIn_of_qOp h0 hst
    exact headQ_first h0 (Region.noSelect_spec hsel) hs hc hn hkn (fun listed' a' hL => seqB_ready hL.1) l.length listed a inv (Region.free_spec h0 hB.1.2) hr' hy
      (headQ_lex hsel hs hc hn l (k + 1) _ _ (fun j hj => by have := hl (j + 1) (by simp; omega); simpa [Nat.add_assoc, Nat.add_comm 1 j] using this) (by simp only [List.length_cons] at hk; omega) (inv.set hr' hkn) hB.2 hK)

/-- The head walked once, in every world of the class; then the tail. -/
theorem wp_region_quiet_tail {id : Nat} {Q : Exit → Act → World → Prop} {a : Act} {w : World} {l : List Oper} (n : Nat) (hm : P.follows .mixedOrders = true) (hB : Region.lexTailB .any l.toArray n = true) (hC : C { w with drawn := w.drawn + 1 })
    (h : wpQuiet P l.toArray C (fun a' => ∀ w', C w' → wpList P l.toArray Q (l.drop n) a' w') (l.take n) a) : (Code.region id l.toArray true).wp P Q a w := by
  simp only [Region.lexTailB, Bool.and_eq_true, decide_eq_true_eq] at hB
  obtain ⟨⟨⟨⟨hsel, hn⟩, hs⟩, hc⟩, hlex⟩ := hB
  have hn' : n < l.length := by simpa using hn
  have htl : (l.take n).length = n := by simp; omega
  have hdl : (l.drop n).length = l.toArray.size - n := by simp
  have inv0 : HeadInv .any l.toArray n (Array.replicate l.toArray.size false) :=
    ⟨by simp, fun j oj _ hl => (by rw [getD_replicate_false] at hl; cases hl), fun t _ ht => getD_in (by simpa using ht) (getD_replicate_false _ _)⟩
  have H := headQ_lex (md := .any) (g := l.toArray.size - n) hsel hs hc hn (l.take n) 0 _ a (fun j hj => by
    have hj' : j < n := by rw [htl] at hj; exact hj
    simp [hj']) (by simpa using htl) inv0 (by rw [htl]; exact hlex) h
  refine wp_region_any hm ?_
  have := wpAny_headQ (Q' := Q) (g := l.toArray.size - n) (fun listed a' w' hw' hL => by
    have := wpAny_of_seq (md := .any) (Q' := Q) (l.drop n) n listed a' w' (fun j => by simp [List.getElem?_drop]) (by rw [hdl]; exact hL.1) (hL.2 w' hw')
    rwa [hdl] at this) _ _ _ _ hC H
  rw [htl, show n + (l.toArray.size - n) = l.toArray.size by omega] at this
  exact this
/-- At the worlds behind w. -/
theorem wp_region_below_tail {id : Nat} {Q : Exit → Act → World → Prop} {a : Act} {w : World} {l : List Oper} (n : Nat) (hm : P.follows .mixedOrders = true) (hB : Region.lexTailB .any l.toArray n = true)
    (h : wpQuiet P l.toArray (fun w' => ∃ p : BelowBy w, w' = p.world) (fun a' => ∀ w', (∃ p : BelowBy w, w' = p.world) → wpList P l.toArray Q (l.drop n) a' w') (l.take n) a) : (Code.region id l.toArray true).wp P Q a w :=
  wp_region_quiet_tail n hm hB ⟨⟨w.drew, (Below.refl _ _).drew⟩, rfl⟩ h
end

end Go.Proofs.Ytdhmicpoigoleaa

/- The contracts of the model's 'l3Fox' and 'FoxOf'. -/

namespace Go.Proofs.Ytdhmicpoigoleaa
open Go.RowKit Go.Shelf

theorem extract_take (s : ByteArray) (k : Nat) : s.extract 0 k = bstr (s.data.toList.take k) := by
  apply bytes_ext
  rw [Lib.extract_data, bstr_toList]; simp

end Go.Proofs.Ytdhmicpoigoleaa

/- The contract of the model's 'LyndonFactors'. -/

namespace Go.Proofs.Ytdhmicpoigoleaa
open Go.RowKit Go.Shelf

/-- The length of the longest beginning, at most n letters, that is a Lyndon word. -/
def prefN (l : List UInt8) : Nat → Nat
  | 0 => 0
  | n + 1 => if lynL (l.take (n + 1)) then n + 1 else prefN l n
theorem prefN_at {l : List UInt8} : ∀ {m n : Nat}, n ≤ m → 0 < n → (∀ j, n < j → j ≤ m → lynL (l.take j) = false) → lynL (l.take n) = true → prefN l m = n
  | 0, n, h1, h2, _, _ => by omega
  | m + 1, n, h1, h2, h3, h4 => by
    rw [prefN]
    by_cases e : n = m + 1
    · subst e; rw [if_pos h4]
    · rw [if_neg (by rw [h3 (m + 1) (by omega) (Nat.le_refl _)]; exact Bool.false_ne_true)]
      exact prefN_at (by omega) h2 (fun j h5 h6 => h3 j h5 (by omega)) h4
/-- The factors, at most so many. -/
def factF : Nat → ByteArray → List ByteArray
  | 0, _ => []
  | f + 1, s => if s.size = 0 then [] else s.extract 0 (prefN s.data.toList s.size) :: factF f (s.extract (prefN s.data.toList s.size) s.size)
theorem lyn_one' (l : List UInt8) (h : l.length = 1) : lynL l = true := by
  unfold lynL; rw [h]; rfl
theorem factF_len : ∀ (f : Nat) (s : ByteArray), (factF f s).length ≤ f
  | 0, _ => Nat.le_refl _
  | f + 1, s => by
    rw [factF]
    split
    · simp
    · have := factF_len f (s.extract (prefN s.data.toList s.size) s.size)
      rw [List.length_cons]; omega
def factL (s : ByteArray) : List ByteArray := factF 12 s

/-- What a function of the model hands back: a list of texts. -/
def SStrs (w : World) (b : Bool) (zs : List ByteArray) (e : Ending) (w' : World) : Prop := (∃ v', e = .returned (.tuple #[v', .bool b]) ∧ OwnS w.heap.size w' v' (cond b zs [])) ∧ Below w.heap.size w w'
theorem ownS_made (w : World) : OwnS w.heap.size (w.alloc (.cells #[] 9)) (.slice (some ⟨w.heap.size, 0, none⟩) 0 0) [] :=
  World.ownsRow_made w #[] 0 (Nat.le_refl _) (Nat.zero_le _) rfl
theorem OwnS.mono {b1 b2 : Nat} {w : World} {v : Value} {zs : List ByteArray} (h : OwnS b1 w v zs) (hb : b2 ≤ b1) : OwnS b2 w v zs := ownsRow_base h hb

set_option maxRecDepth 100000 in
theorem sFactors_no (s : ByteArray) (w : World) (hs : s.size ≤ maxLen) (hb : text12 s = false) :
    Calls Try.prog 32 #[.string s] w (SStrs w false []) := by
  have H := Lib.hid hb
  clear hb
  go_enter Try.func32, Try.ntmps32
  go_wp2_with fail
  refine (sText_is s false _ hs H.out).mono ?_
  rintro e w1 ⟨rfl, rfl⟩
  go_wp2
  go_ret2
  exact ⟨⟨_, rfl, ownS_made w⟩, (Below.refl _ _).alloc (Nat.le_refl _) _⟩

set_option maxRecDepth 100000 in
set_option maxHeartbeats 4000000 in
theorem sFactors_yes (s : ByteArray) (w : World) (hs : s.size ≤ maxLen) (hb : text12 s = true) :
    Calls Try.prog 32 #[.string s] w (SStrs w true (factL s)) := by
  obtain ⟨i0, hi, hz0, hz1, hz2⟩ := info_parts infoStr
  have hs12 : s.size ≤ 12 := by unfold text12 at hb; simp only [Bool.and_eq_true, decide_eq_true_eq] at hb; exact hb.2
  have H := Lib.hid hb
  clear hb
  go_enter Try.func32, Try.ntmps32
  go_wp2_with fail
  refine (sText_is s true _ hs H.out).mono ?_
  rintro e w1 ⟨rfl, rfl⟩
  go_wp2
  go_loopw [0, 4] (fun t v wr => ∃ (r : ByteArray) (zs : List ByteArray) (f : Nat), t = .string r ∧ r.size ≤ f ∧ f ≤ 12 ∧ zs.length + f ≤ 12 ∧ Hid (zs ++ factF f r = factL s) ∧ Hid (OwnS w.heap.size wr v zs) ∧ Below w.heap.size w wr) (fun t _ _ => match t with | .string r => r.size | _ => 0)
  case atStart => exact ⟨s, [], 12, rfl, hs12, Nat.le_refl _, by simp, Lib.hid rfl, Lib.hid (ownS_made w), (Below.refl _ _).alloc (Nat.le_refl _) _⟩
  case round =>
    obtain ⟨r, zs, f, rfl, hrf, hf, hzf, HF, HO, hB⟩ := hrel
    by_cases h0 : r.size = 0
    · have hd0 : ¬ (0 : Int) < r.size := by omega
      have hfe : factF f r = [] := by
        cases f with
        | zero => rfl
        | succ f => rw [factF, if_pos h0]
      have hz : zs = factL s := by rw [← HF.out, hfe, List.append_nil]
      have HZ := Lib.hid hz
      have HH := HO
      clear hfe hz
      go_wp2
      go_ret2
      exact ⟨⟨_, rfl, by rw [← HZ.out]; exact HH.out⟩, hB⟩
    · have hd0 : (0 : Int) < r.size := by omega
      have hd00 : 0 < r.size := by omega
      have hdd : decide ((0 : Int) < r.size) = true := decide_eq_true hd0
      have hdd0 : decide (0 < r.size) = true := decide_eq_true hd00
      obtain ⟨wo, rfl⟩ : ∃ wo : World, wo = wr := ⟨_, rfl⟩
      have hln : r.data.toList.length = r.size := by simp
      have HLn := Lib.hid hln
      obtain ⟨g, rfl⟩ : ∃ g, f = g + 1 := ⟨f - 1, by omega⟩
      have hr12 : r.size ≤ 12 := by omega
      clear hln
      go_wp2
      go_loopw [5] (fun i wr => ∃ n : Nat, 1 ≤ n ∧ n ≤ r.size ∧ i = .int .i64 n ∧ Hid (∀ j, n < j → j ≤ r.size → lynL (r.data.toList.take j) = false) ∧ wo = wr) (fun i _ => (intOf i).toNat)
      case atStart => exact ⟨r.size, by omega, Nat.le_refl _, rfl, Lib.hid (fun j h1 h2 => by omega), rfl⟩
      case round =>
        obtain ⟨n, hn1, hn, rfl, HJ, rfl⟩ := hrel
        have hle : (n : Int) ≤ r.size := by omega
        have hge : 0 ≤ (n : Int) := by omega
        obtain ⟨x, hx⟩ : ∃ x, r.extract 0 n = x := ⟨_, rfl⟩
        have hxl : x.data.toList = r.data.toList.take n := by rw [← hx, extract_take, bstr_toList]
        have hxs : x.size ≤ maxLen := by rw [← hx, ByteArray.size_extract]; unfold maxLen; omega
        cases hl : lynL (r.data.toList.take n) with
        | true =>
          have HPn : Hid (prefN r.data.toList r.size = n) := Lib.hid (prefN_at hn (by omega) HJ.out hl)
          have HL : Hid (lynL x.data.toList = true) := Lib.hid (by rw [hxl]; exact hl)
          obtain ⟨y, hy⟩ : ∃ y, r.extract n r.size = y := ⟨_, rfl⟩
          have hys : y.size = r.size - n := by rw [← hy, ByteArray.size_extract]; omega
          have HFa : Hid (factF (g + 1) r = x :: factF g y) := Lib.hid (by rw [factF, if_neg h0, HPn.out, hx, hy])
          have HYS := Lib.hid hys
          have hown := HO.out
          unfold OwnS at hown
          obtain ⟨N, hN⟩ : ∃ N, zs.length = N := ⟨_, rfl⟩
          rw [hN] at hown hzf
          have HOW := Lib.hid hown
          have HN := Lib.hid hN
          have hbs := hB.size
          clear hl hxl hown hN hys
          go_wp2_with fail
          refine (sLyn_is x true _ hxs HL.out).mono ?_
          rintro e w1 ⟨rfl, rfl⟩
          go_wp2_with (at_builtin; refine wpList_append_lies _ rfl _ _ _ rfl w.heap.size 9 i0 _ 1 16 Try.underlying22 hi hz0 hz1 hz2 rfl (by omega) u4 N (strsV zs) rfl (HOW.out.alloc _) ⟨wo.heap.size, 0, none⟩ 1 1 [.string x] rfl rfl (World.news_of_block (cs := #[.string x]) (t := 9) (fr := (0, 0)) (heap_alloc_new wo _)) (by simp [Value.oneCell']) (by omega) (by unfold maxLen; omega) (by omega) (by simp; omega) (wo.heap.size + 1) (by simp) ?_; intro gg cap1 w7 hown7 hgrow7 hat hlt7)
          have hB7 : Below w.heap.size w w7 := hB.trans (((Below.refl w.heap.size wo).alloc hbs _).grown hgrow7 (by simp; omega) (ownsRow_low HOW.out))
          have HO7 := Lib.hid hown7
          clear hown7 hgrow7 hat hlt7
          go_wp2
          go_roundw
          case rel =>
            refine ⟨y, zs ++ [x], g, rfl, by have := HYS.out; omega, by omega, by rw [List.length_append, HN.out, List.length_singleton]; omega, Lib.hid ?_, Lib.hid ?_, hB7⟩
            · rw [List.append_assoc, List.singleton_append, ← HFa.out]; exact HF.out
            · unfold OwnS
              rw [List.length_append, HN.out, show strsV (zs ++ [x]) = strsV zs ++ [.string x] by simp [strsV]]
              exact HO7.out
          case measure =>
            have := HYS.out
            show y.size < r.size
            omega
        | false =>
          have hn2 : 2 ≤ n := by
            by_cases h : n = 1
            · subst h
              have := lyn_one' (r.data.toList.take 1) (by rw [List.length_take, HLn.out]; omega)
              rw [this] at hl; cases hl
            · omega
          have HL : Hid (lynL x.data.toList = false) := Lib.hid (by rw [hxl]; exact hl)
          have HLk := Lib.hid hl
          clear hl hxl
          go_wp2_with fail
          refine (sLyn_is x false _ hxs HL.out).mono ?_
          rintro e w1 ⟨rfl, rfl⟩
          go_wp2
          go_roundw
          case rel =>
            refine ⟨n - 1, by omega, by omega, by go_num, Lib.hid fun j h1 h2 => ?_, by trivial⟩
            by_cases e : j = n
            · subst e; exact HLk.out
            · exact HJ.out j (by omega) h2
          case measure => simp [intOf]; omega

theorem sLyndonFactors_any (s : ByteArray) (b : Bool) (w : World) (hs : s.size ≤ maxLen) (hb : text12 s = b) :
    Calls Try.prog 32 #[.string s] w (SStrs w b (factL s)) := by
  cases b with
  | false => exact sFactors_no s w hs hb
  | true => exact sFactors_yes s w hs hb

end Go.Proofs.Ytdhmicpoigoleaa

/- The contract of the model's 'LyndonCount'. -/

namespace Go.Proofs.Ytdhmicpoigoleaa
open Go.RowKit

/-- The function mu, with fuel: d is left, p is tried. -/
def muR : Nat → Nat → Nat → Int → Int
  | 0, _, _, o => o
  | f + 1, d, p, o => if d < p then o else if d % p = 0 then (if d / p % p = 0 then 0 else muR f (d / p) (p + 1) (0 - o)) else muR f d (p + 1) o
def muI (d : Nat) : Int := muR 13 d 2 1

set_option maxRecDepth 100000 in
set_option maxHeartbeats 4000000 in
theorem sMu_is (d : Nat) (w : World) (h1 : 1 ≤ d) (h2 : d ≤ 12) :
    Calls Try.prog 58 #[.int .i64 d] w fun e w' => e = .returned (.int .i64 (muI d)) ∧ w = w' := by
  go_enter Try.func58, Try.ntmps58
  go_wp2
  go_loopw [0, 3, 4] (fun a o i wr => ∃ (f d' p : Nat) (o' : Int), 1 ≤ d' ∧ d' ≤ 12 ∧ 2 ≤ p ∧ p + f = 15 ∧ p ≤ 13 ∧ -1 ≤ o' ∧ o' ≤ 1 ∧ a = .int .i64 d' ∧ o = .int .i64 o' ∧ i = .int .i64 p ∧ Hid (muR f d' p o' = muI d) ∧ w = wr) (fun _ _ i _ => 15 - (intOf i).toNat)
  case atStart => exact ⟨13, d, 2, 1, h1, h2, by omega, by omega, by omega, by omega, by omega, rfl, rfl, rfl, Lib.hid rfl, rfl⟩
  case round =>
    obtain ⟨f, d', p, o', hd1, hd2, hp2, hpf, hp13, ho1, ho2, rfl, rfl, rfl, HM, rfl⟩ := hrel
    obtain ⟨f, rfl⟩ : ∃ g, f = g + 1 := ⟨f - 1, by omega⟩
    by_cases hlt : d' < p
    · have hle : ¬ (p : Int) ≤ d' := by omega
      go_wp2
      go_ret
      refine ⟨?_, rfl⟩
      rw [← HM.out, muR, if_pos hlt]
      rfl
    · have hle : (p : Int) ≤ d' := by omega
      have hp0 : ¬ (p : Int) = 0 := by omega
      by_cases hr : d' % p = 0
      · have hri : (d' : Int) % p = 0 := by omega
        have hrn : ((d' : Int) % p != 0) = false := by simp [hri]
        have hq1 : 1 ≤ d' / p := Nat.div_pos (by omega) (by omega)
        have hq2 : d' / p ≤ 12 := Nat.le_trans (Nat.div_le_self _ _) hd2
        have hqi : (d' : Int) / p = (d' / p : Nat) := by simp
        obtain ⟨q, hq⟩ : ∃ q, d' / p = q := ⟨_, rfl⟩
        rw [hq] at hqi hq1 hq2
        have HQ := Lib.hid hq
        have HR := Lib.hid hr
        clear hq hr
        by_cases hr2 : q % p = 0
        · have hri2 : (q : Int) % p = 0 := by omega
          have hrn2 : ((q : Int) % p == 0) = true := by simp [hri2]
          have HR2 := Lib.hid hr2
          clear hr2
          go_wp2
          go_ret
          refine ⟨?_, rfl⟩
          rw [← HM.out, muR, if_neg hlt, if_pos HR.out, HQ.out, if_pos HR2.out]
          rfl
        · have hri2 : ¬ (q : Int) % p = 0 := by omega
          have hrn2 : ((q : Int) % p == 0) = false := by simpa using hri2
          have HR2 := Lib.hid hr2
          clear hr2
          go_wp2
          go_roundw
          case rel =>
            refine ⟨f, q, p + 1, 0 - o', hq1, hq2, by omega, by omega, by omega, by omega, by omega, rfl, by go_num, by go_num, Lib.hid ?_, by trivial⟩
            rw [← HM.out, muR, if_neg hlt, if_pos HR.out, HQ.out, if_neg HR2.out]
          case measure => simp [intOf]; omega
      · have hri : ¬ (d' : Int) % p = 0 := by omega
        have hrn : ((d' : Int) % p != 0) = true := by simpa using hri
        have HR := Lib.hid hr
        clear hr
        go_wp2
        go_roundw
        case rel =>
          refine ⟨f, d', p + 1, o', hd1, hd2, by omega, by omega, by omega, ho1, ho2, rfl, rfl, by go_num, Lib.hid ?_, by trivial⟩
          rw [← HM.out, muR, if_neg hlt, if_neg HR.out]
        case measure => simp [intOf]; omega

/-- One factor's share, summed up to m; and what LyndonCount answers. -/
def sumMuC (k n : Nat) : Nat → Int
  | 0 => 0
  | m + 1 => if n % (m + 1) = 0 then sumMuC k n m + muI (m + 1) * ((k ^ (n / (m + 1)) : Nat) : Int) else sumMuC k n m
def countI (k n : Nat) : Int := (sumMuC k n n).tdiv n

theorem muR_le : ∀ (f d p : Nat) (o : Int), -1 ≤ o → o ≤ 1 → -1 ≤ muR f d p o ∧ muR f d p o ≤ 1
  | 0, _, _, o, h1, h2 => ⟨h1, h2⟩
  | f + 1, d, p, o, h1, h2 => by
    rw [muR]
    split
    · exact ⟨h1, h2⟩
    · split
      · split
        · exact ⟨by omega, by omega⟩
        · exact muR_le f _ _ _ (by omega) (by omega)
      · exact muR_le f _ _ _ h1 h2
theorem muI_le (d : Nat) : -1 ≤ muI d ∧ muI d ≤ 1 := muR_le _ _ _ _ (by omega) (by omega)
theorem pow_le (k e : Nat) (hk : k ≤ 4) (he : e ≤ 12) : k ^ e ≤ 16777216 :=
  Nat.le_trans (Nat.pow_le_pow_left hk e) (Nat.le_trans (Nat.pow_le_pow_right (by omega) he) (by decide))
theorem share_le (m x : Int) (h1 : -1 ≤ m) (h2 : m ≤ 1) (h3 : 0 ≤ x) (h4 : x ≤ 16777216) : -16777216 ≤ m * x ∧ m * x ≤ 16777216 := by
  rcases (by omega : m = -1 ∨ m = 0 ∨ m = 1) with rfl | rfl | rfl <;> omega
theorem sumC_le (k n : Nat) (hk : k ≤ 4) (hn : n ≤ 12) : ∀ m : Nat, -16777216 * (m : Int) ≤ sumMuC k n m ∧ sumMuC k n m ≤ 16777216 * (m : Int)
  | 0 => ⟨by simp [sumMuC], by simp [sumMuC]⟩
  | m + 1 => by
    have ih := sumC_le k n hk hn m
    rw [sumMuC]
    split
    · have h1 := muI_le (m + 1)
      have h2 := pow_le k (n / (m + 1)) hk (Nat.le_trans (Nat.div_le_self _ _) hn)
      have h3 := share_le _ ((k ^ (n / (m + 1)) : Nat) : Int) h1.1 h1.2 (by omega) (by omega)
      push_cast at h3 ⊢
      exact ⟨by omega, by omega⟩
    · exact ⟨by push_cast; omega, by push_cast; omega⟩
theorem sMu_succ (m : Nat) (z : Int) (w : World) (h : m + 1 ≤ 12) (hz : muI (m + 1) = z) :
    Calls Try.prog 58 #[.int .i64 ((m : Int) + 1)] w fun e w' => e = .returned (.int .i64 z) ∧ w = w' := by
  subst hz
  exact sMu_is (m + 1) w (by omega) h
theorem l6In_eq (c a b : Int) (r : Bool) (w : World) (h : inR a b c = r) :
    Calls Try.prog 45 #[.int .i64 c, .int .i64 a, .int .i64 b] w fun e w' => e = .returned (.bool r) ∧ w = w' :=
  (l6In_any c a b w).mono fun _ _ ⟨h1, h2⟩ => ⟨by rw [h1, h], h2⟩

set_option maxRecDepth 100000 in
set_option maxHeartbeats 4000000 in
theorem sLyndonCount_yes (k n : Nat) (w : World) (hk1 : 1 ≤ k) (hk4 : k ≤ 4) (hn1 : 1 ≤ n) (hn2 : n ≤ 12) :
    Calls Try.prog 28 #[.int .i64 k, .int .i64 n] w fun e w' => e = .returned (.tuple #[.int .i64 (countI k n), .bool true]) ∧ w = w' := by
  have hk1i : (1 : Int) ≤ k := by omega
  have hk4i : (k : Int) ≤ 4 := by omega
  have hn1i : (1 : Int) ≤ n := by omega
  have hn2i : (n : Int) ≤ 12 := by omega
  have hn0 : ¬ (n : Int) = 0 := by omega
  go_enter Try.func28, Try.ntmps28
  go_wp2_with fail
  refine (l6In_eq _ _ _ true _ (by unfold inR; simp [hk1i, hk4i])).mono ?_
  rintro e w1 ⟨rfl, rfl⟩
  go_wp2_with fail
  refine (l6In_eq _ _ _ true _ (by unfold inR; simp [hn1i, hn2i])).mono ?_
  rintro e w1 ⟨rfl, rfl⟩
  go_wp2
  go_loopw [6, 7] (fun s d wr => ∃ (m : Nat) (x : Int), m ≤ n ∧ d = .int .i64 ((m + 1 : Nat) : Int) ∧ s = .int .i64 x ∧ -16777216 * (m : Int) ≤ x ∧ x ≤ 16777216 * (m : Int) ∧ Hid (sumMuC k n m = x) ∧ w = wr) (fun _ d _ => 14 - (intOf d).toNat)
  case atStart => exact ⟨0, 0, Nat.zero_le _, rfl, rfl, by omega, by omega, Lib.hid rfl, rfl⟩
  case round =>
    obtain ⟨m, x, hm, rfl, rfl, hx1, hx2, HX, rfl⟩ := hrel
    by_cases hlt : m = n
    · subst hlt
      go_wp2
      go_ret2
      refine ⟨?_, rfl⟩
      rw [countI, HX.out]
      rfl
    · have hlt1 : (m : Int) + 1 ≤ n := by omega
      have hcast : (n : Int) % ((m : Int) + 1) = ((n % (m + 1) : Nat) : Int) := by push_cast; rfl
      have hm0 : ¬ ((m : Int) + 1) = 0 := by omega
      by_cases hr : n % (m + 1) = 0
      · have hri : (n : Int) % ((m : Int) + 1) = 0 := by rw [hcast, hr]; rfl
        have hre : ((n : Int) % ((m : Int) + 1) == 0) = true := by simp [hri]
        have HR := Lib.hid hr
        have hqi : (n : Int) / ((m : Int) + 1) = ((n / (m + 1) : Nat) : Int) := by push_cast; rfl
        have hq12 : n / (m + 1) ≤ 12 := Nat.le_trans (Nat.div_le_self _ _) hn2
        obtain ⟨q, hq⟩ : ∃ q, n / (m + 1) = q := ⟨_, rfl⟩
        rw [hq] at hqi hq12
        have HQ := Lib.hid hq
        clear hr hq hcast
        go_wp2
        obtain ⟨wo, hwo⟩ : ∃ wo : World, wo = w := ⟨_, rfl⟩
        go_loopw [8, 9] (fun t i wr => ∃ e y : Nat, e ≤ q ∧ i = .int .i64 e ∧ t = .int .i64 y ∧ y ≤ 16777216 ∧ Hid (k ^ e = y) ∧ w = wr) (fun _ i _ => q - (intOf i).toNat)
        case atStart => exact ⟨0, 1, Nat.zero_le _, rfl, rfl, by omega, Lib.hid rfl, rfl⟩
        case round =>
          obtain ⟨e, y, heq, rfl, rfl, hy, HY, rfl⟩ := hrel
          by_cases hlt2 : e = q
          · subst hlt2
            obtain ⟨z, hz⟩ : ∃ z, muI (m + 1) = z := ⟨_, rfl⟩
            have hz1 := muI_le (m + 1)
            rw [hz] at hz1
            have HZ := Lib.hid hz
            have hs := share_le z (y : Int) hz1.1 hz1.2 (by omega) (by omega)
            clear hz
            go_wp2_with fail
            refine (sMu_succ m z _ (by omega) HZ.out).mono ?_
            rintro e w1 ⟨rfl, rfl⟩
            go_wp2
            go_roundw
            case rel =>
              refine ⟨m + 1, x + z * y, by omega, by go_num, by go_num, by push_cast; omega, by push_cast; omega, Lib.hid ?_, by trivial⟩
              rw [sumMuC, if_pos HR.out, HX.out, HZ.out, HQ.out, HY.out]
            case measure => simp [intOf]; omega
          · have hlt3 : (e : Int) < q := by omega
            have hyk : (y : Int) * k = ((y * k : Nat) : Int) := by push_cast; rfl
            have hyk2 : y * k ≤ 67108864 := Nat.le_trans (Nat.mul_le_mul hy hk4) (by decide)
            have hyk3 : y * k ≤ 16777216 := by
              rw [← HY.out, ← Nat.pow_succ]
              exact pow_le k (e + 1) hk4 (by omega)
            obtain ⟨y2, hy2⟩ : ∃ y2, y * k = y2 := ⟨_, rfl⟩
            rw [hy2] at hyk hyk2 hyk3
            have HY2 := Lib.hid hy2
            clear hy2
            go_wp2
            go_roundw
            case rel =>
              refine ⟨e + 1, y2, by omega, by go_num, by go_num, hyk3, Lib.hid ?_, by trivial⟩
              rw [Nat.pow_succ, HY.out, HY2.out]
            case measure => simp [intOf]; omega
      · have hri : ¬ (n : Int) % ((m : Int) + 1) = 0 := by rw [hcast]; omega
        have hre : ((n : Int) % ((m : Int) + 1) == 0) = false := by simpa using hri
        have HR := Lib.hid hr
        clear hr hcast
        go_wp2
        go_roundw
        case rel =>
          refine ⟨m + 1, x, by omega, by go_num, rfl, by push_cast; omega, by push_cast; omega, Lib.hid ?_, by trivial⟩
          rw [sumMuC, if_neg HR.out, HX.out]
        case measure => simp [intOf]; omega

set_option maxRecDepth 100000 in
set_option maxHeartbeats 2000000 in
theorem sLyndonCount_no (k n : Int) (w : World) (hb : (inR 1 4 k && inR 1 12 n) = false) :
    Calls Try.prog 28 #[.int .i64 k, .int .i64 n] w fun e w' => e = .returned (.tuple #[.int .i64 0, .bool false]) ∧ w = w' := by
  cases h1 : inR 1 4 k with
  | false =>
    go_enter Try.func28, Try.ntmps28
    go_wp2_with fail
    refine (l6In_eq _ _ _ false _ h1).mono ?_
    rintro e w1 ⟨rfl, rfl⟩
    go_wp2
    go_ret2
    exact ⟨rfl, rfl⟩
  | true =>
    rw [h1, Bool.true_and] at hb
    go_enter Try.func28, Try.ntmps28
    go_wp2_with fail
    refine (l6In_eq _ _ _ true _ h1).mono ?_
    rintro e w1 ⟨rfl, rfl⟩
    go_wp2_with fail
    refine (l6In_eq _ _ _ false _ hb).mono ?_
    rintro e w1 ⟨rfl, rfl⟩
    go_wp2
    go_ret2
    exact ⟨rfl, rfl⟩
theorem countI_nat {k n : Int} (hb : (inR 1 4 k && inR 1 12 n) = true) : ∃ a b : Nat, k = a ∧ n = b ∧ 1 ≤ a ∧ a ≤ 4 ∧ 1 ≤ b ∧ b ≤ 12 := by
  unfold inR at hb
  simp only [Bool.and_eq_true, decide_eq_true_eq] at hb
  exact ⟨k.toNat, n.toNat, by omega, by omega, by omega, by omega, by omega, by omega⟩
theorem sLyndonCount_is (k n : Int) (w : World) (hb : (inR 1 4 k && inR 1 12 n) = true) :
    Calls Try.prog 28 #[.int .i64 k, .int .i64 n] w fun e w' => e = .returned (.tuple #[.int .i64 (countI k.toNat n.toNat), .bool true]) ∧ w = w' := by
  obtain ⟨a, b, rfl, rfl, h1, h2, h3, h4⟩ := countI_nat hb
  exact sLyndonCount_yes a b w h1 h2 h3 h4

end Go.Proofs.Ytdhmicpoigoleaa

/- The contracts of the model's 'l5All' and 'LyndonList'. -/

namespace Go.Proofs.Ytdhmicpoigoleaa
open Go.RowKit Go.Shelf

/-- A generator's letter. -/
def chrB (c : Nat) : ByteArray := ⟨#[UInt8.ofNat (97 + c)]⟩
def allC (f : ByteArray → List ByteArray) (b : ByteArray) : Nat → List ByteArray
  | 0 => []
  | c + 1 => allC f b c ++ f (b ++ chrB c)
/-- The Lyndon words that begin so and have m letters more. -/
def allF (k : Nat) : Nat → ByteArray → List ByteArray
  | 0, b => if lynL b.data.toList then [b] else []
  | m + 1, b => allC (allF k m) b k
theorem allC_len (f : ByteArray → List ByteArray) (b : ByteArray) (M : Nat) (h : ∀ x, (f x).length ≤ M) : ∀ c, (allC f b c).length ≤ c * M
  | 0 => by simp [allC]
  | c + 1 => by
    have h1 := allC_len f b M h c
    have h2 := h (b ++ chrB c)
    rw [allC, List.length_append, Nat.succ_mul]
    omega
theorem allF_len (k : Nat) (hk : k ≤ 4) : ∀ m b, (allF k m b).length ≤ 4 ^ m
  | 0, b => by rw [allF]; split <;> simp
  | m + 1, b => by
    have h1 := allC_len (allF k m) b (4 ^ m) (allF_len k hk m) k
    have h2 := Nat.mul_le_mul hk (Nat.le_refl (4 ^ m))
    rw [allF, Nat.pow_succ]
    omega

set_option maxRecDepth 100000 in
set_option maxHeartbeats 4000000 in
theorem sAll_in (k n base : Nat) (hk4 : k ≤ 4) (hn : n ≤ 6) (m : Nat) : ∀ (b : ByteArray) (zs : List ByteArray) (v : Value) (w : World), b.size + m = n → zs.length + 4 ^ m ≤ 4096 → OwnS base w v zs → base ≤ w.heap.size →
    Calls Try.prog 54 #[.string b, .int .i64 k, .int .i64 n, v] w fun e w' => (∃ v', e = .returned v' ∧ OwnS base w' v' (zs ++ allF k m b)) ∧ Below base w w' := by
  obtain ⟨i0, hi, hz0, hz1, hz2⟩ := info_parts infoStr
  induction m with
  | zero =>
    intro b zs v w hbn hz hO hbs
    have hb6 : b.size ≤ maxLen := by unfold maxLen; omega
    have hsi : (b.size : Int) = n := by omega
    have hbe : ((b.size : Int) == (n : Int)) = true := by simp [hsi]
    cases hl : lynL b.data.toList with
    | true =>
      have HL := Lib.hid hl
      have HF : Hid (allF k 0 b = [b]) := Lib.hid (by rw [allF, if_pos hl])
      obtain ⟨N, hN⟩ : ∃ N, zs.length = N := ⟨_, rfl⟩
      have hown := hO
      unfold OwnS at hown
      rw [hN] at hown hz
      have hz4 : N ≤ 4095 := by omega
      have HOW := Lib.hid hown
      have HN := Lib.hid hN
      clear hl hown hN hO hz hsi hbn
      go_enter Try.func54, Try.ntmps54
      go_wp2_with fail
      refine (sLyn_is b true _ hb6 HL.out).mono ?_
      rintro e w1 ⟨rfl, rfl⟩
      go_wp2_with (at_builtin; refine wpList_append_lies _ rfl _ _ _ rfl base 9 i0 _ 1 16 Try.underlying22 hi hz0 hz1 hz2 rfl (by omega) v N (strsV zs) rfl (HOW.out.alloc _) ⟨w.heap.size, 0, none⟩ 1 1 [.string b] rfl rfl (World.news_of_block (cs := #[.string b]) (t := 9) (fr := (0, 0)) (heap_alloc_new w _)) (by simp [Value.oneCell']) (by omega) (by unfold maxLen; omega) (by omega) (by simp; omega) (w.heap.size + 1) (by simp) ?_; intro gg cap1 w7 hown7 hgrow7 hat hlt7)
      have hB7 : Below base w w7 := ((Below.refl base w).alloc hbs _).grown hgrow7 (by simp; omega) (ownsRow_low HOW.out)
      have HO7 := Lib.hid hown7
      clear hown7 hgrow7 hat hlt7
      go_ret
      refine ⟨⟨_, rfl, ?_⟩, hB7⟩
      rw [HF.out]
      unfold OwnS
      rw [List.length_append, HN.out, show strsV (zs ++ [b]) = strsV zs ++ [.string b] by simp [strsV]]
      exact HO7.out
    | false =>
      have HL := Lib.hid hl
      have HF : Hid (allF k 0 b = []) := Lib.hid (by rw [allF, hl]; rfl)
      clear hl hsi hbn
      go_enter Try.func54, Try.ntmps54
      go_wp2_with fail
      refine (sLyn_is b false _ hb6 HL.out).mono ?_
      rintro e w1 ⟨rfl, rfl⟩
      go_wp2
      go_ret
      exact ⟨⟨_, rfl, by rw [HF.out, List.append_nil]; exact hO⟩, Below.refl _ _⟩
  | succ m ih =>
    intro b zs v w hbn hz hO hbs
    have hlt : ¬ (b.size : Int) = n := by omega
    have hbe : ((b.size : Int) == (n : Int)) = false := by simpa using hlt
    have HO0 := Lib.hid hO
    have HZ := Lib.hid hz
    clear hO hz
    go_enter Try.func54, Try.ntmps54
    go_wp2
    go_loopw [3, 9] (fun t i wr => ∃ c : Nat, c ≤ k ∧ i = .int .i64 c ∧ Hid (OwnS base wr t (zs ++ allC (allF k m) b c)) ∧ Below base w wr) (fun _ i _ => k - (intOf i).toNat)
    case atStart => exact ⟨0, Nat.zero_le _, rfl, Lib.hid (by rw [allC, List.append_nil]; exact HO0.out), Below.refl _ _⟩
    case round =>
      obtain ⟨c, hc, rfl, HO, hB⟩ := hrel
      by_cases hck : c = k
      · subst hck
        have HH := HO
        go_wp2
        go_ret
        exact ⟨⟨_, rfl, HH.out⟩, hB⟩
      · have hci : (c : Int) < k := by omega
        have hval : ((UInt8.ofNat (97 + c)).toNat : Int) = 97 + (c : Int) := by
          rw [UInt8.toNat_ofNat']
          rw [Nat.mod_eq_of_lt (by omega)]
          omega
        have hconv : (convert 39 9 (.slice (some ⟨wr.heap.size, 0, none⟩) 1 1)).run Try.prog (wr.alloc (.cells #[.int .u8 (97 + (c : Int))] 5)) = .ok (.string (chrB c)) (wr.alloc (.cells #[.int .u8 (97 + (c : Int))] 5)) := by
          have := run_convert_bytes_back (P := Try.prog) (wr.alloc (.cells #[.int .u8 (97 + (c : Int))] 5)) 39 9 5 ⟨wr.heap.size, 0, none⟩ 1 [UInt8.ofNat (97 + c)] Try.underlying39 Try.underlying5 Try.underlying9 (fun j hj => by
            have hj0 : j = 0 := by simp at hj; exact hj
            subst hj0
            show (wr.alloc _).cell? ((⟨wr.heap.size, 0, none⟩ : Addr).add 0) = some (.int .u8 ((UInt8.ofNat (97 + c)).toNat : Int))
            rw [hval]
            exact cell_one_new _ _ _ 0 _ rfl)
          exact this
        have hrange : 0 ≤ 97 + (c : Int) ∧ 97 + (c : Int) ≤ 255 := by omega
        obtain ⟨x, hx⟩ : ∃ x, chrB c = x := ⟨_, rfl⟩
        rw [hx] at hconv
        have HX := Lib.hid hx
        have hxs : x.size = 1 := by rw [← hx]; rfl
        have hnot : ¬ 9223372036854775807 < b.size + x.size := by omega
        have hlen : (zs ++ allC (allF k m) b c).length + 4 ^ m ≤ 4096 := by
          have h1 := allC_len (allF k m) b (4 ^ m) (allF_len k hk4 m) c
          have h2 := HZ.out
          have h3 : (c + 1) * 4 ^ m ≤ 4 * 4 ^ m := Nat.mul_le_mul (by omega) (Nat.le_refl _)
          rw [Nat.pow_succ] at h2
          rw [Nat.succ_mul] at h3
          rw [List.length_append]
          omega
        have HLen := Lib.hid hlen
        have hbx : (b ++ x).size + m = n := by rw [ByteArray.size_append]; omega
        have HBX := Lib.hid hbx
        have hbs2 := hB.size
        clear hval hx hlen hbx
        go_wp2_with fail
        refine (ih (b ++ x) (zs ++ allC (allF k m) b c) u3 _ HBX.out HLen.out (HO.out.alloc _) (by simp; omega)).mono ?_
        rintro e w1 ⟨⟨v', rfl, hv'⟩, hB'⟩
        have HV := Lib.hid hv'
        have hB1 : Below base w w1 := hB.trans (((Below.refl base wr).alloc (by omega) _).trans hB')
        clear hv' hB'
        go_wp2
        go_roundw
        case rel =>
          refine ⟨c + 1, by omega, by go_num, Lib.hid ?_, hB1⟩
          rw [allC, ← List.append_assoc, HX.out]
          exact HV.out
        case measure => simp [intOf]; omega

/-- What LyndonList answers. -/
def listL (k n : Nat) : List ByteArray := allF k n { data := #[] }

set_option maxRecDepth 100000 in
set_option maxHeartbeats 2000000 in
theorem sLyndonList_no (k n : Int) (w : World) (hb : (inR 1 4 k && inR 1 6 n) = false) :
    Calls Try.prog 24 #[.int .i64 k, .int .i64 n] w (SStrs w false []) := by
  cases h1 : inR 1 4 k with
  | false =>
    go_enter Try.func24, Try.ntmps24
    go_wp2_with fail
    refine (l6In_eq _ _ _ false _ h1).mono ?_
    rintro e w1 ⟨rfl, rfl⟩
    go_wp2
    go_ret2
    exact ⟨⟨_, rfl, ownS_made w⟩, (Below.refl _ _).alloc (Nat.le_refl _) _⟩
  | true =>
    rw [h1, Bool.true_and] at hb
    go_enter Try.func24, Try.ntmps24
    go_wp2_with fail
    refine (l6In_eq _ _ _ true _ h1).mono ?_
    rintro e w1 ⟨rfl, rfl⟩
    go_wp2_with fail
    refine (l6In_eq _ _ _ false _ hb).mono ?_
    rintro e w1 ⟨rfl, rfl⟩
    go_wp2
    go_ret2
    exact ⟨⟨_, rfl, ownS_made w⟩, (Below.refl _ _).alloc (Nat.le_refl _) _⟩

set_option maxRecDepth 100000 in
set_option maxHeartbeats 2000000 in
theorem sLyndonList_yes (k n : Nat) (w : World) (hk1 : 1 ≤ k) (hk4 : k ≤ 4) (hn1 : 1 ≤ n) (hn2 : n ≤ 6) :
    Calls Try.prog 24 #[.int .i64 k, .int .i64 n] w (SStrs w true (listL k n)) := by
  have h1 : inR 1 4 (k : Int) = true := by unfold inR; rw [decide_eq_true (by omega), decide_eq_true (by omega)]; rfl
  have h2 : inR 1 6 (n : Int) = true := by unfold inR; rw [decide_eq_true (by omega), decide_eq_true (by omega)]; rfl
  have h3 : 4 ^ n ≤ 4096 := Nat.le_trans (Nat.pow_le_pow_right (by omega) hn2) (by decide)
  go_enter Try.func24, Try.ntmps24
  go_wp2_with fail
  refine (l6In_eq _ _ _ true _ h1).mono ?_
  rintro e w1 ⟨rfl, rfl⟩
  go_wp2_with fail
  refine (l6In_eq _ _ _ true _ h2).mono ?_
  rintro e w1 ⟨rfl, rfl⟩
  go_wp2_with fail
  refine (sAll_in k n w.heap.size hk4 hn2 n { data := #[] } [] _ _ (by show 0 + n = n; omega) (by show 0 + 4 ^ n ≤ 4096; omega) (ownS_made w) (by simp)).mono ?_
  rintro e w1 ⟨⟨v', rfl, hv'⟩, hB'⟩
  go_wp2
  go_ret2
  exact ⟨⟨_, rfl, hv'⟩, ((Below.refl _ _).alloc (Nat.le_refl _) _).trans hB'⟩
theorem sLyndonList_is (k n : Int) (w : World) (hb : (inR 1 4 k && inR 1 6 n) = true) :
    Calls Try.prog 24 #[.int .i64 k, .int .i64 n] w (SStrs w true (listL k.toNat n.toNat)) := by
  unfold inR at hb
  simp only [Bool.and_eq_true, decide_eq_true_eq] at hb
  obtain ⟨a, rfl⟩ : ∃ a : Nat, k = a := ⟨k.toNat, by omega⟩
  obtain ⟨b, rfl⟩ : ∃ b : Nat, n = b := ⟨n.toNat, by omega⟩
  exact sLyndonList_yes a b w (by omega) (by omega) (by omega) (by omega)

end Go.Proofs.Ytdhmicpoigoleaa

/- The contract of the model's 'LyndonSplit'. -/

namespace Go.Proofs.Ytdhmicpoigoleaa
open Go.RowKit

/-- The place, from i on, of the first end that is a Lyndon word. -/
def splitF (l : List UInt8) : Nat → Nat → Nat
  | 0, i => i
  | f + 1, i => if lynL (l.drop i) then i else splitF l f (i + 1)
def splitI (l : List UInt8) : Nat := splitF l l.length 1
theorem splitF_at {l : List UInt8} : ∀ {f i0 i : Nat}, i0 ≤ i → i < i0 + f → (∀ j, i0 ≤ j → j < i → lynL (l.drop j) = false) → lynL (l.drop i) = true → splitF l f i0 = i
  | 0, i0, i, h1, h2, _, _ => by omega
  | f + 1, i0, i, h1, h2, h3, h4 => by
    rw [splitF]
    by_cases e : i0 = i
    · subst e; rw [if_pos h4]
    · rw [if_neg (by rw [h3 i0 (Nat.le_refl _) (by omega)]; exact Bool.false_ne_true)]
      exact splitF_at (by omega) (by omega) (fun j h5 h6 => h3 j (by omega) h6) h4
theorem lyn_one (l : List UInt8) (h : l.length = 1) : lynL l = true := by
  unfold lynL; rw [h]; rfl
/-- What LyndonSplit answers. -/
def split12 (s : ByteArray) : Bool := lynB s && !(decide (s.size < 2))

set_option maxRecDepth 100000 in
set_option maxHeartbeats 2000000 in
theorem sLyndonSplit_no (s : ByteArray) (w : World) (hs : s.size ≤ maxLen) (hb : split12 s = false) :
    Calls Try.prog 30 #[.string s] w fun e w' => e = .returned (.tuple #[.string { data := #[] }, .string { data := #[] }, .bool false]) ∧ w = w' := by
  unfold split12 at hb
  cases h1 : lynB s with
  | false =>
    have H1 := Lib.hid h1
    clear h1 hb
    go_enter Try.func30, Try.ntmps30
    go_wp2_with fail
    refine (sLyndonIn_is s false _ hs H1.out).mono ?_
    rintro e w1 ⟨rfl, rfl⟩
    go_wp2
    go_ret3
    exact ⟨rfl, rfl⟩
  | true =>
    rw [h1, Bool.true_and] at hb
    have h0 : s.size < 2 := by simpa using hb
    have hi0 : (s.size : Int) < 2 := by omega
    have H1 := Lib.hid h1
    clear h1 hb h0
    go_enter Try.func30, Try.ntmps30
    go_wp2_with fail
    refine (sLyndonIn_is s true _ hs H1.out).mono ?_
    rintro e w1 ⟨rfl, rfl⟩
    go_wp2
    go_ret3
    exact ⟨rfl, rfl⟩

set_option maxRecDepth 100000 in
set_option maxHeartbeats 4000000 in
theorem sLyndonSplit_yes (s : ByteArray) (w : World) (hs : s.size ≤ maxLen) (hb : split12 s = true) :
    Calls Try.prog 30 #[.string s] w fun e w' => e = .returned (.tuple #[.string (s.extract 0 (splitI s.data.toList)), .string (s.extract (splitI s.data.toList) s.size), .bool true]) ∧ Below w.heap.size w w' := by
  unfold split12 at hb
  simp only [Bool.and_eq_true, Bool.not_eq_true', decide_eq_false_iff_not] at hb
  obtain ⟨h1, h0⟩ := hb
  have hs12 : s.size ≤ 12 := by
    unfold lynB text12 at h1
    simp only [Bool.and_eq_true, decide_eq_true_eq] at h1
    exact h1.1.2
  have hi0 : ¬ (s.size : Int) < 2 := by omega
  have hdi : decide ((s.size : Int) < 2) = false := decide_eq_false hi0
  have hln : s.data.toList.length = s.size := by simp
  have HLn := Lib.hid hln
  have hmx : Try.prog.follows .mixedOrders = true := by kernel_rfl
  have H1 := Lib.hid h1
  clear h1 hln
  go_enter Try.func30, Try.ntmps30
  go_wp2_with fail
  refine (sLyndonIn_is s true _ hs H1.out).mono ?_
  rintro e w1 ⟨rfl, rfl⟩
  go_wp2
  go_loopw [5] (fun i wr => ∃ k : Nat, 1 ≤ k ∧ k < s.size ∧ i = .int .i64 k ∧ Hid (∀ j, 1 ≤ j → j < k → lynL (s.data.toList.drop j) = false) ∧ w = wr) (fun i _ => s.size - (intOf i).toNat)
  case atStart => exact ⟨1, Nat.le_refl _, by omega, rfl, Lib.hid (fun j h1 h2 => by omega), rfl⟩
  case round =>
    obtain ⟨k, hk1, hk, rfl, HJ, rfl⟩ := hrel
    have hle : (k : Int) ≤ s.size := by omega
    have hge : 0 ≤ (k : Int) := by omega
    obtain ⟨x, hx⟩ : ∃ x, s.extract k s.size = x := ⟨_, rfl⟩
    have hxl : x.data.toList = s.data.toList.drop k := by rw [← hx, ← extract_drop, ByteArray.toList_eq]
    have hxs : x.size ≤ maxLen := by
      have : x.data.toList.length = x.size := by simp
      rw [hxl, List.length_drop, HLn.out] at this
      unfold maxLen; omega
    cases hl : lynL (s.data.toList.drop k) with
    | true =>
      have HSp : Hid (splitI s.data.toList = k) := Lib.hid (splitF_at hk1 (by rw [HLn.out]; omega) HJ.out hl)
      have HL : Hid (lynL x.data.toList = true) := Lib.hid (by rw [hxl]; exact hl)
      have HX := Lib.hid hx
      clear hl hxl
      go_wp2_with fail
      refine (sLyn_is x true _ hxs HL.out).mono ?_
      rintro e w1 ⟨rfl, rfl⟩
      go_wp2
      refine wp_region_below hmx (by kernel_rfl) ?_
      repeat (((with_reducible refine wpQuiet_step (fun K hK => ?_)); go_simp; first | ((with_reducible refine hK _ ?_); clear hK K) | (refine (if_neg (by decide)).mpr ?_; (with_reducible refine hK _ ?_); clear hK K)))
      with_reducible refine wpQuiet_nil ?_
      rintro W ⟨⟨W, hW⟩, rfl⟩
      go_wp2
      go_ret3
      exact ⟨by rw [HSp.out, HX.out]; rfl, hW⟩
    | false =>
      have hk2 : k + 1 < s.size := by
        by_cases h : k + 1 = s.size
        · have := lyn_one (s.data.toList.drop k) (by rw [List.length_drop, HLn.out]; omega)
          rw [this] at hl; cases hl
        · omega
      have HL : Hid (lynL x.data.toList = false) := Lib.hid (by rw [hxl]; exact hl)
      have HLk := Lib.hid hl
      clear hl hxl
      go_wp2_with fail
      refine (sLyn_is x false _ hxs HL.out).mono ?_
      rintro e w1 ⟨rfl, rfl⟩
      go_wp2
      go_roundw
      case rel =>
        refine ⟨k + 1, by omega, hk2, by go_num, Lib.hid fun j h1 h2 => ?_, by trivial⟩
        by_cases e : j = k
        · subst e; exact HLk.out
        · exact HJ.out j h1 (by omega)
      case measure => simp [intOf]; omega

end Go.Proofs.Ytdhmicpoigoleaa

/- The contract of the model's 'LyndonBracket'. -/

namespace Go.Proofs.Ytdhmicpoigoleaa
open Go.RowKit

theorem splitF_low (l : List UInt8) : ∀ f i, i ≤ splitF l f i
  | 0, _ => Nat.le_refl _
  | f + 1, i => by
    rw [splitF]
    split
    · exact Nat.le_refl _
    · exact Nat.le_trans (Nat.le_succ i) (splitF_low l f (i + 1))
theorem splitF_high {l : List UInt8} : ∀ {f i0 i : Nat}, i0 ≤ i → i < i0 + f → lynL (l.drop i) = true → splitF l f i0 ≤ i
  | 0, i0, i, h1, h2, _ => by omega
  | f + 1, i0, i, h1, h2, h3 => by
    rw [splitF]
    split
    · exact h1
    · rename_i hn
      by_cases e : i0 = i
      · subst e; exact absurd h3 hn
      · exact splitF_high (by omega) (by omega) h3
theorem splitI_in {l : List UInt8} (h : 2 ≤ l.length) : 1 ≤ splitI l ∧ splitI l < l.length := by
  refine ⟨splitF_low l _ 1, ?_⟩
  have := splitF_high (l := l) (f := l.length) (i0 := 1) (i := l.length - 1) (by omega) (by omega) (lyn_one _ (by rw [List.length_drop]; omega))
  unfold splitI
  omega
/-- The bracket, at most so deep. -/
def bracketF : Nat → ByteArray → Option ByteArray
  | 0, _ => none
  | f + 1, s => if lynB s = false then none else if s.size = 1 then some s else
    (bracketF f (s.extract 0 (splitI s.data.toList))).bind fun x => (bracketF f (s.extract (splitI s.data.toList) s.size)).bind fun y => commO x y
/-- What LyndonBracket answers. -/
def bracketO (s : ByteArray) : Option ByteArray := bracketF 12 s
theorem bracket_size : ∀ {f : Nat} {s t : ByteArray}, bracketF f s = some t → t.size ≤ 60
  | 0, _, _, h => by cases h
  | f + 1, s, t, h => by
    rw [bracketF] at h
    split at h
    · cases h
    · split at h
      · rename_i h1
        cases h; omega
      · cases hx : bracketF f (s.extract 0 (splitI s.data.toList)) with
        | none => rw [hx] at h; cases h
        | some x =>
          rw [hx, Option.bind_some] at h
          cases hy : bracketF f (s.extract (splitI s.data.toList) s.size) with
          | none => rw [hy] at h; cases h
          | some y => rw [hy, Option.bind_some] at h; exact commO_size h
theorem lynB_size {s : ByteArray} (h : lynB s = true) : s.size ≤ 12 ∧ 0 < s.size := by
  unfold lynB text12 lynL at h
  simp only [Bool.and_eq_true, decide_eq_true_eq] at h
  exact ⟨h.1.2, by have := h.2.1; simpa using this⟩

set_option maxRecDepth 100000 in
theorem sBracket_no (s : ByteArray) (w : World) (hs : s.size ≤ maxLen) (hb : lynB s = false) :
    Calls Try.prog 34 #[.string s] w fun e w' => e = .returned (.tuple #[.string { data := #[] }, .bool false]) ∧ Below w.heap.size w w' := by
  have H := Lib.hid hb
  clear hb
  go_enter Try.func34, Try.ntmps34
  go_wp2_with fail
  refine (sLyndonIn_is s false _ hs H.out).mono ?_
  rintro e w1 ⟨rfl, rfl⟩
  go_wp2
  go_ret2
  exact ⟨rfl, Below.refl _ _⟩

set_option maxRecDepth 100000 in
set_option maxHeartbeats 4000000 in
theorem sBracket_in (k : Nat) : ∀ (s : ByteArray) (w : World), s.size ≤ k → s.size ≤ maxLen →
    Calls Try.prog 34 #[.string s] w fun e w' => e = .returned (.tuple #[.string ((bracketF k s).getD { data := #[] }), .bool (bracketF k s).isSome]) ∧ Below w.heap.size w w' := by
  induction k with
  | zero =>
    intro s w hk hs
    have h : lynB s = false := by
      cases h : lynB s with
      | false => rfl
      | true => have := (lynB_size h).2; omega
    exact sBracket_no s w hs h
  | succ k ih =>
    intro s w hk hs
    cases hl : lynB s with
    | false =>
      have e : bracketF (k + 1) s = none := by rw [bracketF, if_pos hl]
      rw [e]
      exact sBracket_no s w hs hl
    | true =>
      obtain ⟨h12, h0⟩ := lynB_size hl
      have hnl : ¬ lynB s = false := by rw [hl]; exact Bool.noConfusion
      by_cases h1 : s.size = 1
      · have e : bracketF (k + 1) s = some s := by rw [bracketF, if_neg hnl, if_pos h1]
        rw [e]
        have hi1 : (s.size : Int) = 1 := by omega
        have hbe : ((s.size : Int) == 1) = true := by simp [h1]
        have H := Lib.hid hl
        clear hl hnl e ih h1
        go_enter Try.func34, Try.ntmps34
        go_wp2_with fail
        refine (sLyndonIn_is s true _ hs H.out).mono ?_
        rintro e w1 ⟨rfl, rfl⟩
        go_wp2
        go_ret2
        exact ⟨rfl, Below.refl _ _⟩
      · have hln : s.data.toList.length = s.size := by simp
        obtain ⟨hi1, hi2⟩ := splitI_in (l := s.data.toList) (by rw [hln]; omega)
        have e : bracketF (k + 1) s = (bracketF k (s.extract 0 (splitI s.data.toList))).bind fun x => (bracketF k (s.extract (splitI s.data.toList) s.size)).bind fun y => commO x y := by rw [bracketF, if_neg hnl, if_neg h1]
        rw [e]
        have hsp := sLyndonSplit_yes s w hs (by unfold split12; rw [hl, Bool.true_and]; simpa using (by omega : 2 ≤ s.size))
        obtain ⟨i, hi⟩ : ∃ i, splitI s.data.toList = i := ⟨_, rfl⟩
        rw [hi] at hsp hi1 hi2 ⊢
        rw [hln] at hi2
        obtain ⟨p, hp⟩ : ∃ p, s.extract 0 i = p := ⟨_, rfl⟩
        obtain ⟨q, hq⟩ : ∃ q, s.extract i s.size = q := ⟨_, rfl⟩
        have sp : p.size = i := by rw [← hp, ByteArray.size_extract]; omega
        have sq : q.size = s.size - i := by rw [← hq, ByteArray.size_extract]; omega
        rw [hp, hq] at hsp ⊢
        obtain ⟨op, hop⟩ : ∃ o, bracketF k p = o := ⟨_, rfl⟩
        obtain ⟨oq, hoq⟩ : ∃ o, bracketF k q = o := ⟨_, rfl⟩
        have H1 : Hid (∀ W, Calls Try.prog 34 #[.string p] W fun e w' => e = .returned (.tuple #[.string (op.getD { data := #[] }), .bool op.isSome]) ∧ Below W.heap.size W w') := Lib.hid fun W => by
          rw [← hop]; exact ih p W (by omega) (by unfold maxLen; omega)
        have H2 : Hid (∀ W, Calls Try.prog 34 #[.string q] W fun e w' => e = .returned (.tuple #[.string (oq.getD { data := #[] }), .bool oq.isSome]) ∧ Below W.heap.size W w') := Lib.hid fun W => by
          rw [← hoq]; exact ih q W (by omega) (by unfold maxLen; omega)
        rw [hop, hoq]
        have hpm : ∀ x, op = some x → x.size ≤ maxLen := fun x hx => by have := bracket_size (hop.trans hx); unfold maxLen; omega
        have hqm : ∀ x, oq = some x → x.size ≤ maxLen := fun x hx => by have := bracket_size (hoq.trans hx); unfold maxLen; omega
        have HPM := Lib.hid hpm
        have HQM := Lib.hid hqm
        have HSP := Lib.hid hsp
        have HL := Lib.hid hl
        have hn1 : ¬ (s.size : Int) = 1 := by omega
        have hbe : ((s.size : Int) == 1) = false := by simp; omega
        clear hl hnl e ih hsp hop hoq hp hq sp sq hln hi hpm hqm
        go_enter Try.func34, Try.ntmps34
        go_wp2_with fail
        refine (sLyndonIn_is s true _ hs HL.out).mono ?_
        rintro e w1 ⟨rfl, rfl⟩
        go_wp2_with fail
        refine HSP.out.mono ?_
        rintro e w1 ⟨rfl, hb1⟩
        have HB1 := Lib.hid hb1
        clear hb1
        go_wp2_with fail
        refine (H1.out _).mono ?_
        rintro e w2 ⟨rfl, hb2⟩
        have HB2 := Lib.hid (HB1.out.trans (hb2.mono HB1.out.size))
        clear hb2
        go_wp2_with fail
        refine (H2.out _).mono ?_
        rintro e w3 ⟨rfl, hb3⟩
        have HB3 := Lib.hid (HB2.out.trans (hb3.mono HB2.out.size))
        clear hb3
        cases op with
        | none =>
          go_wp2
          go_ret2
          exact ⟨rfl, HB3.out⟩
        | some x =>
          cases oq with
          | none =>
            go_wp2
            go_ret2
            exact ⟨rfl, HB3.out⟩
          | some y =>
            obtain ⟨o, ho⟩ : ∃ o, commO x y = o := ⟨_, rfl⟩
            have HO := Lib.hid ho
            have hxm := HPM.out x rfl
            have hym := HQM.out y rfl
            clear ho
            go_wp2_with fail
            refine (sComm_any x y o _ hxm hym HO.out).mono ?_
            rintro e w4 ⟨rfl, hb4⟩
            have HB4 := Lib.hid (HB3.out.trans (hb4.mono HB3.out.size))
            clear hb4
            go_wp2
            go_ret2
            exact ⟨by rw [show ((some x).bind fun x => (some y).bind fun y => commO x y) = o from HO.out]; rfl, HB4.out⟩

theorem sLyndonBracket_any (s : ByteArray) (o : Option ByteArray) (w : World) (hs : s.size ≤ maxLen) (ho : bracketO s = o) :
    Calls Try.prog 34 #[.string s] w fun e w' => e = .returned (.tuple #[.string (o.getD { data := #[] }), .bool o.isSome]) ∧ Below w.heap.size w w' := by
  subst ho
  unfold bracketO
  cases hl : lynB s with
  | false =>
    have e : bracketF 12 s = none := by rw [bracketF, if_pos hl]
    rw [e]
    exact sBracket_no s w hs hl
  | true => exact sBracket_in 12 s w (lynB_size hl).1 hs

end Go.Proofs.Ytdhmicpoigoleaa

/- Texts and Lyndon words: how texts compare, which ones put together are Lyndon words, that both parts of a split are, and that factors do not rise. -/

namespace Go.Proofs.Ytdhmicpoigoleaa
open Go.RowKit

theorem bl_pre : ∀ (p a b : List UInt8), Op.bytesLess (p ++ a) (p ++ b) = Op.bytesLess a b
  | [], _, _ => rfl
  | c :: p, a, b => by
    rw [List.cons_append, List.cons_append, Op.bytesLess, bl_pre p a b]
    simp [UInt8.lt_irrefl]
/-- At some place the first one's byte is less, and all ahead of it are equal. -/
def Apart1 (a b : List UInt8) : Prop := ∃ p x y r s, a = p ++ x :: r ∧ b = p ++ y :: s ∧ x < y
theorem bl_cases : ∀ a b : List UInt8, Op.bytesLess a b = true → (∃ r, r ≠ [] ∧ b = a ++ r) ∨ Apart1 a b
  | _, [], h => by unfold Op.bytesLess at h; cases h
  | [], y :: s, _ => .inl ⟨y :: s, by simp, rfl⟩
  | x :: r, y :: s, h => by
    unfold Op.bytesLess at h
    simp only [Bool.or_eq_true, Bool.and_eq_true, decide_eq_true_eq, beq_iff_eq] at h
    rcases h with h | ⟨rfl, h⟩
    · exact .inr ⟨[], x, y, r, s, rfl, rfl, h⟩
    · rcases bl_cases r s h with ⟨t, ht, rfl⟩ | ⟨p, u, v, r', s', rfl, rfl, huv⟩
      · exact .inl ⟨t, ht, rfl⟩
      · exact .inr ⟨x :: p, u, v, r', s', rfl, rfl, huv⟩
theorem Apart1.less {a b : List UInt8} (h : Apart1 a b) (r s : List UInt8) : Op.bytesLess (a ++ r) (b ++ s) = true := by
  obtain ⟨p, x, y, r', s', rfl, rfl, hxy⟩ := h
  rw [List.append_assoc, List.append_assoc, bl_pre, List.cons_append, List.cons_append]
  unfold Op.bytesLess
  simp [hxy]
theorem bl_longer {a r : List UInt8} (h : r ≠ []) : Op.bytesLess a (a ++ r) = true := by
  have e := bl_pre a [] r
  rw [List.append_nil] at e
  rw [e]
  cases r with
  | nil => exact absurd rfl h
  | cons x y => rfl
theorem apart_of_short {a b : List UInt8} (h : Op.bytesLess a b = true) (hl : b.length ≤ a.length) : Apart1 a b := by
  rcases bl_cases a b h with ⟨r, hr, rfl⟩ | h
  · rw [List.length_append] at hl
    have := List.length_pos_iff.2 hr
    omega
  · exact h
theorem bl_asymm {a b : List UInt8} (h : Op.bytesLess a b = true) : Op.bytesLess b a = false := by
  cases h2 : Op.bytesLess b a with
  | false => rfl
  | true => have := bl_trans _ _ _ h h2; rw [bl_irrefl] at this; cases this

def Lyn (l : List UInt8) : Prop := l ≠ [] ∧ ∀ x y, l = x ++ y → x ≠ [] → y ≠ [] → Op.bytesLess l y = true
theorem lynL_iff (l : List UInt8) : lynL l = true ↔ Lyn l := by
  unfold lynL Lyn
  simp only [Bool.and_eq_true, decide_eq_true_eq, List.all_eq_true, List.mem_range]
  constructor
  · rintro ⟨h0, h⟩
    refine ⟨fun e => by rw [e] at h0; exact Nat.lt_irrefl _ h0, ?_⟩
    rintro x y rfl hx hy
    have h1 := List.length_pos_iff.2 hx
    have h2 := List.length_pos_iff.2 hy
    have h3 := h (x.length - 1) (by rw [List.length_append]; omega)
    rwa [show x.length - 1 + 1 = x.length by omega, List.drop_left] at h3
  · rintro ⟨h0, h⟩
    refine ⟨List.length_pos_iff.2 h0, fun i hi => ?_⟩
    refine h (l.take (i + 1)) _ (List.take_append_drop _ _).symm ?_ ?_
    · intro e
      have h1 := congrArg List.length e
      rw [List.length_take, List.length_nil] at h1
      omega
    · intro e
      have h1 := congrArg List.length e
      rw [List.length_drop, List.length_nil] at h1
      omega
theorem Lyn.before {x v : List UInt8} (hx : x ≠ []) (hv : Lyn v) (h : Op.bytesLess x v = true) : Op.bytesLess (x ++ v) v = true := by
  rcases bl_cases x v h with ⟨r, hr, rfl⟩ | h
  · rw [bl_pre]; exact hv.2 x r rfl hx hr
  · have h1 := h.less v []
    rwa [List.append_nil] at h1
/-- Two Lyndon words in order make one. -/
theorem Lyn.cat {x v : List UInt8} (hx : Lyn x) (hv : Lyn v) (h : Op.bytesLess x v = true) : Lyn (x ++ v) := by
  have hxv := Lyn.before hx.1 hv h
  refine ⟨by simp [hx.1], fun p q e hp hq => ?_⟩
  rcases List.append_eq_append_iff.1 e with ⟨a, rfl, hva⟩ | ⟨c, rfl, rfl⟩
  · by_cases ha : a = []
    · subst ha
      rw [List.nil_append] at hva
      rw [← hva]; exact hxv
    · exact bl_trans _ _ _ hxv (hv.2 a q hva ha hq)
  · by_cases hc : c = []
    · subst hc
      rw [List.nil_append]; exact hxv
    · exact (apart_of_short (hx.2 p c rfl hp hc) (by rw [List.length_append]; omega)).less v v
theorem least_end : ∀ u : List UInt8, u ≠ [] → ∃ a x, u = a ++ x ∧ x ≠ [] ∧ ∀ b y, u = b ++ y → y ≠ [] → y = x ∨ Op.bytesLess x y = true
  | [], h => absurd rfl h
  | [c], _ => ⟨[], [c], rfl, by simp, fun b y e hy => by
      cases b with
      | nil => exact .inl e.symm
      | cons d b =>
        have h1 := congrArg List.length e
        have h2 := List.length_pos_iff.2 hy
        simp only [List.length_append, List.length_cons, List.length_nil] at h1
        omega⟩
  | c :: d :: r, _ => by
    obtain ⟨a, x, hax, hx, hm⟩ := least_end (d :: r) (by simp)
    cases hq : Op.bytesLess (c :: d :: r) x with
    | true =>
      refine ⟨[], c :: d :: r, rfl, by simp, fun b y e hy => ?_⟩
      cases b with
      | nil => exact .inl e.symm
      | cons f b =>
        have e2 : d :: r = b ++ y := by rw [List.cons_append] at e; exact (List.cons.inj e).2
        rcases hm b y e2 hy with rfl | h
        · exact .inr hq
        · exact .inr (bl_trans _ _ _ hq h)
    | false =>
      refine ⟨c :: a, x, by rw [hax]; rfl, hx, fun b y e hy => ?_⟩
      cases b with
      | nil =>
        have e2 : c :: d :: r = y := e
        cases h2 : Op.bytesLess x (c :: d :: r) with
        | true => exact .inr (by rw [← e2]; exact h2)
        | false => exact .inl (by rw [← e2]; exact bl_tri _ _ hq h2)
      | cons f b =>
        have e2 : d :: r = b ++ y := by rw [List.cons_append] at e; exact (List.cons.inj e).2
        exact hm b y e2 hy
theorem least_lyn {u a x : List UInt8} (hu : u = a ++ x) (hx : x ≠ []) (h : ∀ b y, u = b ++ y → y ≠ [] → y = x ∨ Op.bytesLess x y = true) : Lyn x := by
  refine ⟨hx, fun p q e hp hq => ?_⟩
  rcases h (a ++ p) q (by rw [hu, e, List.append_assoc]) hq with rfl | h
  · have h1 := congrArg List.length e
    have h2 := List.length_pos_iff.2 hp
    rw [List.length_append] at h1
    omega
  · exact h
theorem split_less {u v : List UInt8} (hs : Lyn (u ++ v)) (hu : u ≠ []) (hv : v ≠ []) : Op.bytesLess u v = true :=
  bl_trans _ _ _ (bl_longer hv) (hs.2 u v rfl hu hv)
/-- What is ahead of the longest end that is a Lyndon word is one, too. -/
theorem split_first {u v : List UInt8} (hs : Lyn (u ++ v)) (hu : u ≠ []) (hv : Lyn v) (hmax : ∀ a b, u = a ++ b → a ≠ [] → b ≠ [] → ¬ Lyn (b ++ v)) : Lyn u := by
  obtain ⟨a, x, hax, hx, hm⟩ := least_end u hu
  have hl := least_lyn hax hx hm
  by_cases ha : a = []
  · subst ha
    rw [List.nil_append] at hax
    rw [hax]; exact hl
  · exfalso
    have huv := split_less hs hu hv.1
    have hxv : Op.bytesLess x v = true := by
      rcases hm [] u rfl hu with e | h
      · rw [← e]; exact huv
      · exact bl_trans _ _ _ h huv
    exact hmax a x hax ha hx (hl.cat hv hxv)
theorem splitF_spec {l : List UInt8} : ∀ (f i0 i : Nat), i0 ≤ i → i < i0 + f → lynL (l.drop i) = true → lynL (l.drop (splitF l f i0)) = true ∧ ∀ j, i0 ≤ j → j < splitF l f i0 → lynL (l.drop j) = false
  | 0, i0, i, h1, h2, _ => by omega
  | f + 1, i0, i, h1, h2, h3 => by
    rw [splitF]
    cases hq : lynL (l.drop i0) with
    | true =>
      rw [if_pos rfl]
      exact ⟨hq, fun j h4 h5 => by omega⟩
    | false =>
      rw [if_neg Bool.false_ne_true]
      have hne : i0 ≠ i := fun e => by rw [e, h3] at hq; cases hq
      obtain ⟨h4, h5⟩ := splitF_spec f (i0 + 1) i (by omega) (by omega) h3
      refine ⟨h4, fun j h6 h7 => ?_⟩
      by_cases e : j = i0
      · rw [e]; exact hq
      · exact h5 j (by omega) h7
theorem splitI_spec {l : List UInt8} (h : 2 ≤ l.length) : lynL (l.drop (splitI l)) = true ∧ ∀ j, 1 ≤ j → j < splitI l → lynL (l.drop j) = false :=
  splitF_spec l.length 1 (l.length - 1) (by omega) (by omega) (lyn_one _ (by rw [List.length_drop]; omega))
/-- Both parts of the split are Lyndon words, in order. -/
theorem splitI_lyn {l : List UInt8} (hl : lynL l = true) (h : 2 ≤ l.length) : lynL (l.take (splitI l)) = true ∧ lynL (l.drop (splitI l)) = true ∧ Op.bytesLess (l.take (splitI l)) (l.drop (splitI l)) = true := by
  obtain ⟨h1, h2⟩ := splitI_in h
  obtain ⟨h3, h4⟩ := splitI_spec h
  have hL := (lynL_iff l).1 hl
  have e : l = l.take (splitI l) ++ l.drop (splitI l) := (List.take_append_drop _ _).symm
  have hL' : Lyn (l.take (splitI l) ++ l.drop (splitI l)) := by rw [← e]; exact hL
  have hne : l.take (splitI l) ≠ [] := fun e => by
    have := congrArg List.length e
    rw [List.length_take, List.length_nil] at this
    omega
  have hv := (lynL_iff _).1 h3
  refine ⟨(lynL_iff _).2 (split_first hL' hne hv fun a b hab ha hb hLb => ?_), h3, split_less hL' hne hv.1⟩
  have hla := List.length_pos_iff.2 ha
  have hlb := List.length_pos_iff.2 hb
  have hlen := congrArg List.length hab
  rw [List.length_take, List.length_append] at hlen
  have hd : l.drop a.length = b ++ l.drop (splitI l) := by
    have : l = a ++ (b ++ l.drop (splitI l)) := by rw [← List.append_assoc, ← hab]; exact e
    have h5 := congrArg (List.drop a.length) this
    rwa [List.drop_left] at h5
  have h6 := h4 a.length (by omega) (by omega)
  rw [hd, (lynL_iff _).2 hLb] at h6
  cases h6

/-- No end is less than the beginning with as many letters. -/
def mayL (l : List UInt8) : Bool := (List.range l.length).all fun i => !(Op.bytesLess (l.drop i) (l.take (l.length - i)))
theorem may_none {p : List UInt8} (h : mayL p = false) : ∃ i, 0 < i ∧ i < p.length ∧ Op.bytesLess (p.drop i) (p.take (p.length - i)) = true := by
  unfold mayL at h
  obtain ⟨i, hi, hb⟩ := List.all_eq_false.1 h
  rw [List.mem_range] at hi
  have hb : Op.bytesLess (p.drop i) (p.take (p.length - i)) = true := by
    cases hq : Op.bytesLess (p.drop i) (p.take (p.length - i)) with
    | true => rfl
    | false => rw [hq] at hb; exact absurd rfl hb
  refine ⟨i, ?_, hi, hb⟩
  by_cases e : i = 0
  · subst e
    rw [List.drop_zero, Nat.sub_zero, List.take_length, bl_irrefl] at hb
    cases hb
  · omega
/-- Lyndon words have no such beginning. -/
theorem may_lyn {p : List UInt8} (h : mayL p = false) (e : List UInt8) : lynL (p ++ e) = false := by
  cases hq : lynL (p ++ e) with
  | false => rfl
  | true =>
    exfalso
    obtain ⟨i, h0, hi, hb⟩ := may_none h
    have hL := (lynL_iff _).1 hq
    have ha := apart_of_short hb (by rw [List.length_take, List.length_drop]; omega)
    have h1 := ha.less e (p.drop (p.length - i) ++ e)
    rw [← List.append_assoc, List.take_append_drop] at h1
    have h2 := hL.2 (p.take i) (p.drop i ++ e) (by rw [← List.append_assoc, List.take_append_drop]) (fun e => by
      have := congrArg List.length e
      rw [List.length_take, List.length_nil] at this
      omega) (fun e => by
      have := congrArg List.length e
      rw [List.length_append, List.length_drop, List.length_nil] at this
      omega)
    have := bl_trans _ _ _ h1 h2
    rw [bl_irrefl] at this
    cases this
/-- What cannot stand behind a text rules out all lesser letters. -/
theorem may_less {b : List UInt8} {c d : UInt8} (h : mayL (b ++ [c]) = false) (hd : d < c) : mayL (b ++ [d]) = false := by
  obtain ⟨i, h0, hi, hb⟩ := may_none h
  rw [List.length_append, List.length_singleton] at hi
  have hx : ∀ z : UInt8, (b ++ [z]).drop i = b.drop i ++ [z] ∧ (b ++ [z]).take ((b ++ [z]).length - i) = b.take (b.length + 1 - i) := fun z => by
    rw [List.length_append, List.length_singleton]
    exact ⟨List.drop_append_of_le_length (by omega), List.take_append_of_le_length (by omega)⟩
  unfold mayL
  refine List.all_eq_false.2 ⟨i, by rw [List.mem_range, List.length_append, List.length_singleton]; exact hi, ?_⟩
  rw [(hx c).1, (hx c).2] at hb
  have hdc : Op.bytesLess (b.drop i ++ [d]) (b.drop i ++ [c]) = true := by
    rw [bl_pre]; unfold Op.bytesLess; simp [hd]
  rw [(hx d).1, (hx d).2, bl_trans _ _ _ hdc hb]
  exact Bool.false_ne_true

theorem prefN_spec {l : List UInt8} : ∀ (m n : Nat), 0 < n → n ≤ m → lynL (l.take n) = true → n ≤ prefN l m ∧ prefN l m ≤ m ∧ lynL (l.take (prefN l m)) = true ∧ ∀ j, prefN l m < j → j ≤ m → lynL (l.take j) = false
  | 0, n, h1, h2, _ => by omega
  | m + 1, n, h1, h2, h3 => by
    rw [prefN]
    cases hq : lynL (l.take (m + 1)) with
    | true =>
      rw [if_pos rfl]
      exact ⟨h2, Nat.le_refl _, hq, fun j h4 h5 => by omega⟩
    | false =>
      rw [if_neg Bool.false_ne_true]
      have hne : n ≠ m + 1 := fun e => by rw [e, hq] at h3; cases h3
      obtain ⟨h4, h5, h6, h7⟩ := prefN_spec m n h1 (by omega) h3
      refine ⟨h4, by omega, h6, fun j h8 h9 => ?_⟩
      by_cases e : j = m + 1
      · rw [e]; exact hq
      · exact h7 j h8 (by omega)
theorem prefN_full {l : List UInt8} (h : 0 < l.length) : 1 ≤ prefN l l.length ∧ prefN l l.length ≤ l.length ∧ lynL (l.take (prefN l l.length)) = true ∧ ∀ j, prefN l l.length < j → j ≤ l.length → lynL (l.take j) = false :=
  prefN_spec l.length 1 (by omega) (by omega) (lyn_one' _ (by rw [List.length_take]; omega))
/-- The factors of a list of letters, at most so many. -/
def factsL : Nat → List UInt8 → List (List UInt8)
  | 0, _ => []
  | f + 1, l => if l.length = 0 then [] else l.take (prefN l l.length) :: factsL f (l.drop (prefN l l.length))
theorem factF_lists : ∀ (f : Nat) (s : ByteArray), (factF f s).map (fun t => t.data.toList) = factsL f s.data.toList
  | 0, _ => rfl
  | f + 1, s => by
    have hln : s.data.toList.length = s.size := by simp
    rw [factF, factsL, hln]
    by_cases h : s.size = 0
    · rw [if_pos h, if_pos h]; rfl
    · rw [if_neg h, if_neg h, List.map_cons, factF_lists f, extract_take, bstr_toList, ← extract_drop, ByteArray.toList_eq]
/-- Factors make the text, are Lyndon words and do not rise. -/
theorem facts_make : ∀ (f : Nat) (l : List UInt8), l.length ≤ f → (factsL f l).flatten = l
  | 0, l, h => by rw [List.length_eq_zero_iff.1 (Nat.le_zero.1 h)]; rfl
  | f + 1, l, h => by
    rw [factsL]
    by_cases h0 : l.length = 0
    · rw [if_pos h0, List.length_eq_zero_iff.1 h0]; rfl
    · rw [if_neg h0, List.flatten_cons, facts_make f _ (by have := prefN_full (l := l) (by omega); rw [List.length_drop]; omega), List.take_append_drop]
theorem facts_lyn : ∀ (f : Nat) (l : List UInt8), ∀ x ∈ factsL f l, lynL x = true
  | 0, _, x, hx => by cases hx
  | f + 1, l, x, hx => by
    rw [factsL] at hx
    by_cases h0 : l.length = 0
    · rw [if_pos h0] at hx; cases hx
    · rw [if_neg h0] at hx
      rcases List.mem_cons.1 hx with rfl | hx
      · exact (prefN_full (by omega)).2.2.1
      · exact facts_lyn f _ x hx
theorem facts_fall : ∀ (f : Nat) (l : List UInt8) (k : Nat) (h : k + 1 < (factsL f l).length), Op.bytesLess ((factsL f l)[k]) ((factsL f l)[k + 1]) = false
  | 0, _, k, h => by simp [factsL] at h
  | f + 1, l, k, h => by
    by_cases h0 : l.length = 0
    · have e : factsL (f + 1) l = [] := by rw [factsL, if_pos h0]
      rw [e] at h; simp at h
    · have e : factsL (f + 1) l = l.take (prefN l l.length) :: factsL f (l.drop (prefN l l.length)) := by rw [factsL, if_neg h0]
      have hlen := congrArg List.length e
      rw [List.length_cons] at hlen
      have hget : ∀ j (hj : j < (factsL (f + 1) l).length), (factsL (f + 1) l)[j] = (l.take (prefN l l.length) :: factsL f (l.drop (prefN l l.length)))[j]'(by rw [← e]; exact hj) := fun j hj => by simp only [e]
      rw [hget, hget]
      cases k with
      | succ k =>
        rw [List.getElem_cons_succ, List.getElem_cons_succ]
        exact facts_fall f _ k (by omega)
      | zero =>
        rw [List.getElem_cons_zero, List.getElem_cons_succ]
        obtain ⟨h1, h2, h3, h4⟩ := prefN_full (l := l) (by omega)
        obtain ⟨n, hn⟩ : ∃ n, prefN l l.length = n := ⟨_, rfl⟩
        simp only [hn] at h1 h2 h3 h4 h hlen ⊢
        cases f with
        | zero =>
          rw [show factsL 0 (l.drop n) = [] from rfl, List.length_nil] at hlen
          omega
        | succ f =>
          have h0' : ¬ (l.drop n).length = 0 := fun e0 => by
            have : factsL (f + 1) (l.drop n) = [] := by rw [factsL, if_pos e0]
            rw [this] at hlen; simp at hlen; omega
          have e' : factsL (f + 1) (l.drop n) = (l.drop n).take (prefN (l.drop n) (l.drop n).length) :: factsL f ((l.drop n).drop (prefN (l.drop n) (l.drop n).length)) := by rw [factsL, if_neg h0']
          have hget0 : ∀ hj : 0 < (factsL (f + 1) (l.drop n)).length, (factsL (f + 1) (l.drop n))[0] = (l.drop n).take (prefN (l.drop n) (l.drop n).length) := fun hj => by simp only [e', List.getElem_cons_zero]
          rw [hget0]
          obtain ⟨g1, g2, g3, _⟩ := prefN_full (l := l.drop n) (by omega)
          obtain ⟨m, hm⟩ : ∃ m, prefN (l.drop n) (l.drop n).length = m := ⟨_, rfl⟩
          rw [hm] at g1 g2 g3 ⊢
          rw [List.length_drop] at g2
          cases hq : Op.bytesLess (l.take n) ((l.drop n).take m) with
          | false => rfl
          | true =>
            have hc := ((lynL_iff _).1 h3).cat ((lynL_iff _).1 g3) hq
            have ht : l.take n ++ (l.drop n).take m = l.take (n + m) := by rw [List.take_add]
            rw [ht] at hc
            have := h4 (n + m) (by omega) (by omega)
            rw [(lynL_iff _).2 hc] at this
            cases this
theorem facts_one {l : List UInt8} (h : lynL l = true) (f : Nat) : factsL (f + 1) l = [l] := by
  have h0 := ((lynL_iff _).1 h).1
  have hl := List.length_pos_iff.2 h0
  have hp : prefN l l.length = l.length := prefN_at (Nat.le_refl _) hl (fun j h1 h2 => by omega) (by rw [List.take_length]; exact h)
  rw [factsL, if_neg (by omega), hp, List.take_length, List.drop_length]
  cases f with
  | zero => rfl
  | succ f => rw [factsL, if_pos List.length_nil]

/-- Turned lists. -/
def rotL (l : List UInt8) (i : Nat) : List UInt8 := l.drop i ++ l.take i
def turnL (l : List UInt8) : Nat → List UInt8
  | 0 => l
  | k + 1 => if Op.bytesLess (rotL l (k + 1)) (turnL l k) then rotL l (k + 1) else turnL l k
theorem turn_min (l : List UInt8) : ∀ k i, i ≤ k → Op.bytesLess (rotL l i) (turnL l k) = false
  | 0, i, h => by rw [Nat.le_zero.1 h]; simp only [rotL, turnL, List.drop_zero, List.take_zero, List.append_nil]; exact bl_irrefl l
  | k + 1, i, h => by
    rw [turnL]
    cases hq : Op.bytesLess (rotL l (k + 1)) (turnL l k) with
    | true =>
      rw [if_pos rfl]
      by_cases e : i = k + 1
      · rw [e]; exact bl_irrefl _
      · cases h2 : Op.bytesLess (rotL l i) (rotL l (k + 1)) with
        | false => rfl
        | true =>
          have := bl_trans _ _ _ h2 hq
          rw [turn_min l k i (by omega)] at this; cases this
    | false =>
      rw [if_neg Bool.false_ne_true]
      by_cases e : i = k + 1
      · rw [e]; exact hq
      · exact turn_min l k i (by omega)
theorem turn_is (l : List UInt8) : ∀ k, ∃ i, i ≤ k ∧ turnL l k = rotL l i
  | 0 => ⟨0, Nat.le_refl _, by simp [rotL, turnL]⟩
  | k + 1 => by
    rw [turnL]
    split
    · exact ⟨k + 1, Nat.le_refl _, rfl⟩
    · obtain ⟨i, h, e⟩ := turn_is l k
      exact ⟨i, by omega, e⟩
theorem rot_rot {l : List UInt8} (i : Nat) (h : i + 1 ≤ l.length) : rotL (rotL l 1) i = rotL l (i + 1) := by
  unfold rotL
  cases l with
  | nil => simp at h
  | cons c r =>
    rw [List.length_cons] at h
    simp only [List.drop_succ_cons, List.drop_zero, List.take_succ_cons, List.take_zero]
    rw [List.drop_append_of_le_length (by omega), List.take_append_of_le_length (by omega), List.append_assoc]
    rfl
theorem rot_full (l : List UInt8) : rotL l l.length = l := by unfold rotL; rw [List.drop_length, List.take_length]; rfl
theorem rot_zero (l : List UInt8) : rotL l 0 = l := by unfold rotL; simp
theorem rot_len (l : List UInt8) (i : Nat) : (rotL l i).length = l.length := by unfold rotL; rw [List.length_append, List.length_drop, List.length_take]; omega
theorem turn_len (l : List UInt8) (k : Nat) : (turnL l k).length = l.length := by obtain ⟨i, _, e⟩ := turn_is l k; rw [e, rot_len]
/-- The least turn is the same for the text turned by one letter. -/
theorem turn_turned {l : List UInt8} (h : 0 < l.length) : turnL (rotL l 1) (l.length - 1) = turnL l (l.length - 1) := by
  obtain ⟨i, hi, ei⟩ := turn_is l (l.length - 1)
  obtain ⟨j, hj, ej⟩ := turn_is (rotL l 1) (l.length - 1)
  refine bl_tri _ _ ?_ ?_
  · rw [ej, rot_rot j (by omega)]
    by_cases e : j + 1 = l.length
    · rw [e, rot_full]
      have := turn_min l (l.length - 1) 0 (Nat.zero_le _)
      rwa [rot_zero] at this
    · exact turn_min l (l.length - 1) (j + 1) (by omega)
  · rw [ei]
    by_cases e : i = 0
    · rw [e, rot_zero]
      have := turn_min (rotL l 1) (l.length - 1) (l.length - 1) (Nat.le_refl _)
      rwa [rot_rot _ (by omega), show l.length - 1 + 1 = l.length by omega, rot_full] at this
    · have := turn_min (rotL l 1) (l.length - 1) (i - 1) (by omega)
      rwa [rot_rot _ (by omega), show i - 1 + 1 = i by omega] at this
theorem turn_lyn {l : List UInt8} (h : lynL l = true) : ∀ k, k < l.length → turnL l k = l
  | 0, _ => rfl
  | k + 1, hk => by
    have hL := (lynL_iff _).1 h
    have h1 := hL.2 (l.take (k + 1)) (l.drop (k + 1)) (List.take_append_drop _ _).symm (fun e => by
      have := congrArg List.length e
      rw [List.length_take, List.length_nil] at this
      omega) (fun e => by
      have := congrArg List.length e
      rw [List.length_drop, List.length_nil] at this
      omega)
    have h2 := (apart_of_short h1 (by rw [List.length_drop]; omega)).less [] (l.take (k + 1))
    rw [List.append_nil] at h2
    rw [turnL, turn_lyn h k (by omega)]
    unfold rotL
    rw [bl_asymm h2, if_neg Bool.false_ne_true]

end Go.Proofs.Ytdhmicpoigoleaa

/- The contracts of the program's 'generatorText', 'isLyndon' and 'mayBegin'. -/

namespace Go.Proofs.Ytdhmicpoigoleaa
open Go.RowKit Go.Shelf

theorem chr_nat (g : Nat) (h : g < 4) : ((UInt8.ofNat (97 + g)).toNat : Int) = 97 + (g : Int) := by
  rw [UInt8.toNat_ofNat', Nat.mod_eq_of_lt (by omega)]; omega
set_option maxRecDepth 100000 in
set_option maxHeartbeats 2000000 in
theorem genText_any (g : Nat) (w : World) (hg : g < 4) :
    Calls Try.prog 78 #[.int .i64 g] w fun e w' => e = .returned (.string (chrB g)) ∧ Below w.heap.size w w' := by
  have hr0 : 0 ≤ 97 + (g : Int) := by omega
  have hr1 : 97 + (g : Int) ≤ 255 := by omega
  have hlt : Letters w.heap.size 0 [UInt8.ofNat (97 + g)] (w.alloc (.cells #[.int .u8 (97 + (g : Int))] 78)) :=
    ⟨by simp, fun j hj => by
      have hj0 : j = 0 := by simp at hj; exact hj
      subst hj0
      rw [Nat.zero_add, World.cell?_alloc_at _ _ _ _ (by simp), List.getElem_cons_zero, chr_nat g hg]; rfl⟩
  have HT : Hid (Calls Try.prog 89 #[.slice (some ⟨w.heap.size, 0, none⟩) 1 1] (w.alloc (.cells #[.int .u8 (97 + (g : Int))] 78)) fun e w' => e = .returned (.string (chrB g)) ∧ Below (w.alloc (.cells #[.int .u8 (97 + (g : Int))] 78)).heap.size (w.alloc (.cells #[.int .u8 (97 + (g : Int))] 78)) w') :=
    Lib.hid (text_letters w.heap.size 0 1 1 _ _ rfl (by omega) hlt)
  clear hlt
  go_enter Try.func78, Try.ntmps78
  go_wp2_with fail
  refine HT.out.mono ?_
  rintro e w1 ⟨rfl, hb1⟩
  go_wp2
  go_ret
  exact ⟨rfl, ((Below.refl w.heap.size w).alloc (Nat.le_refl _) _).trans (hb1.mono (by simp))⟩

/-- Less than each of its shorter ends. -/
def lynP (l : List UInt8) : Bool := (List.range (l.length - 1)).all fun i => Op.bytesLess l (l.drop (i + 1))
theorem lynL_P {l : List UInt8} (h : 0 < l.length) : lynL l = lynP l := by unfold lynL lynP; rw [decide_eq_true h, Bool.true_and]
theorem lynP_one {l : List UInt8} (h : 0 < l.length) (hl : lynL l = true) : lynP l = true := by rw [← lynL_P h]; exact hl

set_option maxRecDepth 100000 in
set_option maxHeartbeats 1000000 in
theorem isLyn_is (s : ByteArray) (b : Bool) (w : World) (hs : s.size ≤ maxLen) (hb : lynP s.data.toList = b) :
    Calls Try.prog 53 #[.string s] w fun e w' => e = .returned (.bool b) ∧ w = w' := by
  have HB := Lib.hid hb
  have hln : s.data.toList.length = s.size := by simp
  have HL := Lib.hid hln
  unfold maxLen at hs
  clear hb hln
  go_enter Try.func53, Try.ntmps53
  go_wp2
  go_loopw [3] (fun i wr => ∃ k : Nat, (k ≤ s.size - 1) ∧ i = .int .i64 ((k + 1 : Nat) : Int) ∧ Hid ((List.range k).all (fun i => Op.bytesLess s.data.toList (s.data.toList.drop (i + 1))) = true) ∧ w = wr) (fun i _ => s.size - (intOf i).toNat)
  case atStart => exact ⟨0, Nat.zero_le _, rfl, Lib.hid rfl, rfl⟩
  case round =>
    obtain ⟨k, hk, rfl, HG, rfl⟩ := hrel
    by_cases hlt : k + 1 < s.size
    · have hlt1 : (k : Int) + 1 < s.size := by omega
      have hge1 : 0 ≤ (k : Int) + 1 := by omega
      have hle1 : (k : Int) + 1 ≤ s.size := by omega
      cases hq : Op.bytesLess s.data.toList (s.data.toList.drop (k + 1)) with
      | true =>
        have hq2 : Op.bytesLess s.toList (s.extract (k + 1) s.size).toList = true := by rw [extract_drop, ByteArray.toList_eq]; exact hq
        have HQ := Lib.hid hq
        clear hq
        go_wp2_with fail
        go_roundw
        case rel => exact ⟨k + 1, by omega, by go_num, Lib.hid (by rw [List.range_succ, List.all_append, HG.out, Bool.true_and]; simp [HQ.out]), trivial⟩
        case measure => simp [intOf]; omega
      | false =>
        have hq2 : Op.bytesLess s.toList (s.extract (k + 1) s.size).toList = false := by rw [extract_drop, ByteArray.toList_eq]; exact hq
        have hbf : b = false := by
          rw [← HB.out]
          unfold lynP
          rw [List.all_eq_false.2 ⟨k, List.mem_range.2 (by rw [HL.out]; omega), by rw [hq]; exact Bool.false_ne_true⟩]
        subst hbf
        clear hq
        go_wp2_with fail
        go_ret
        exact ⟨rfl, rfl⟩
    · have hall : (List.range (s.data.toList.length - 1)).all (fun i => Op.bytesLess s.data.toList (s.data.toList.drop (i + 1))) = true := by
        rw [HL.out, show s.size - 1 = k by omega]; exact HG.out
      have hbb : b = true := by rw [← HB.out]; unfold lynP; rw [hall]
      subst hbb
      have hlt1 : ¬ (k : Int) + 1 < s.size := by omega
      clear hall
      go_wp2_with fail
      go_ret
      exact ⟨rfl, rfl⟩
theorem isLyn_L (s : ByteArray) (b : Bool) (w : World) (hs : s.size ≤ maxLen) (h0 : 0 < s.size) (hb : lynL s.data.toList = b) :
    Calls Try.prog 53 #[.string s] w fun e w' => e = .returned (.bool b) ∧ w = w' :=
  isLyn_is s b w hs (by rw [← lynL_P (by simpa using h0)]; exact hb)

set_option maxRecDepth 100000 in
set_option maxHeartbeats 2000000 in
theorem may_is (s : ByteArray) (b : Bool) (w : World) (hs : s.size ≤ maxLen) (hb : mayL s.data.toList = b) :
    Calls Try.prog 79 #[.string s] w fun e w' => e = .returned (.bool b) ∧ Below w.heap.size w w' := by
  have HB := Lib.hid hb
  have hln : s.data.toList.length = s.size := by simp
  have HL := Lib.hid hln
  have hmx : Try.prog.follows .mixedOrders = true := by kernel_rfl
  unfold maxLen at hs
  clear hb hln
  go_enter Try.func79, Try.ntmps79
  go_wp2
  go_loopw [6] (fun i wr => ∃ k : Nat, (k ≤ s.size) ∧ i = .int .i64 (k : Int) ∧ Hid ((List.range k).all (fun i => !(Op.bytesLess (s.data.toList.drop i) (s.data.toList.take (s.data.toList.length - i)))) = true) ∧ Below w.heap.size w wr) (fun i _ => s.size - (intOf i).toNat)
  case atStart => exact ⟨0, Nat.zero_le _, rfl, Lib.hid rfl, Below.refl _ _⟩
  case round =>
    obtain ⟨k, hk, rfl, HG, hB⟩ := hrel
    by_cases hlt : k < s.size
    · have hlt1 : (k : Int) < s.size := by omega
      have hge1 : 0 ≤ (k : Int) := by omega
      have hle1 : (k : Int) ≤ s.size := by omega
      obtain ⟨m, hm⟩ : ∃ m, s.size - k = m := ⟨_, rfl⟩
      have hwr : IntKind.i64.wrap ((s.size : Int) - (k : Int)) = (m : Int) := by rw [IntWalk.i64_in _ (by omega)]; omega
      have hge2 : 0 ≤ (m : Int) := by omega
      have hle2 : (m : Int) ≤ s.size := by omega
      have HM := Lib.hid hm
      clear hm
      cases hq : Op.bytesLess (s.data.toList.drop k) (s.data.toList.take (s.data.toList.length - k)) with
      | false =>
        have hq2 : Op.bytesLess (s.extract k s.size).toList (s.extract 0 m).toList = false := by rw [extract_drop, extract_take, ByteArray.toList_eq, bstr_toList, ← HM.out, ← HL.out]; exact hq
        have HQ := Lib.hid hq
        clear hq
        go_wp2
        refine wp_region_below hmx (by kernel_rfl) ?_
        repeat (((with_reducible refine wpQuiet_step (fun K hK => ?_)); go_simp; first | ((with_reducible refine hK _ ?_); clear hK K) | (refine (if_neg (by decide)).mpr ?_; (with_reducible refine hK _ ?_); clear hK K)))
        with_reducible refine wpQuiet_nil ?_
        rintro W ⟨⟨W, hW⟩, rfl⟩
        have hBW : Below w.heap.size w W := hB.trans (hW.mono hB.size)
        go_wp2
        go_roundw
        case rel => exact ⟨k + 1, by omega, by go_num, Lib.hid (by rw [List.range_succ, List.all_append, HG.out, Bool.true_and]; simp only [List.all_cons, List.all_nil, Bool.and_true]; rw [HQ.out]; rfl), hBW⟩
        case measure => simp [intOf]; omega
      | true =>
        have hq2 : Op.bytesLess (s.extract k s.size).toList (s.extract 0 m).toList = true := by rw [extract_drop, extract_take, ByteArray.toList_eq, bstr_toList, ← HM.out, ← HL.out]; exact hq
        have hbf : b = false := by
          rw [← HB.out]
          unfold mayL
          rw [List.all_eq_false.2 ⟨k, List.mem_range.2 (by rw [HL.out]; omega), by rw [hq]; exact Bool.false_ne_true⟩]
        subst hbf
        clear hq
        go_wp2
        refine wp_region_below hmx (by kernel_rfl) ?_
        repeat (((with_reducible refine wpQuiet_step (fun K hK => ?_)); go_simp; first | ((with_reducible refine hK _ ?_); clear hK K) | (refine (if_neg (by decide)).mpr ?_; (with_reducible refine hK _ ?_); clear hK K)))
        with_reducible refine wpQuiet_nil ?_
        rintro W ⟨⟨W, hW⟩, rfl⟩
        have hBW : Below w.heap.size w W := hB.trans (hW.mono hB.size)
        go_wp2
        go_ret
        exact ⟨rfl, hBW⟩
    · obtain rfl : k = s.size := by omega
      have hbb : b = true := by rw [← HB.out]; unfold mayL; rw [HL.out]; rw [HL.out] at HG; exact HG.out
      subst hbb
      go_wp2
      go_ret
      exact ⟨rfl, hB⟩

end Go.Proofs.Ytdhmicpoigoleaa

/- The contract of the program's 'WordSums'. -/

namespace Go.Proofs.Ytdhmicpoigoleaa
open Go.RowKit Go.Shelf

attribute [local go_sem] Oper.semAt_some

theorem idx_tab : ((List.range 256).all fun n => !(decide ((97 ≤ n ∧ n ≤ 100) ∨ (65 ≤ n ∧ n ≤ 68))) || (decide (bits BinOp.or IntKind.u8 (n : Int) 32 = ((if 97 ≤ n then n - 97 else n - 65 : Nat) : Int) + 97) && decide (bits BinOp.and IntKind.u8 (n : Int) 32 = if 97 ≤ n then 32 else 0))) = true := by kernel_rfl
theorem idx_let (c : UInt8) (h : letB c = true) : bits BinOp.or IntKind.u8 (c.toNat : Int) 32 = (idxB c : Int) + 97 ∧ bits BinOp.and IntKind.u8 (c.toNat : Int) 32 = if 97 ≤ c.toNat then 32 else 0 := by
  have := List.all_eq_true.1 idx_tab c.toNat (List.mem_range.2 c.toNat_lt)
  simp only [Bool.or_eq_true, Bool.and_eq_true, Bool.not_eq_true', decide_eq_false_iff_not, decide_eq_true_eq] at this
  exact this.resolve_left (fun h2 => h2 ((letB_iff c).1 h))

theorem iSign_any (c : UInt8) (w : World) (h : letB c = true) :
    Calls Try.prog 92 #[.int .u8 (c.toNat : Int)] w fun e w' => e = .returned (.int .i64 (sgnB c)) ∧ w' = w := by
  have hb := (idx_let c h).2
  by_cases h97 : 97 ≤ c.toNat
  · rw [if_pos h97] at hb
    have hs : Hid (sgnB c = 1) := by unfold sgnB; rw [if_pos h97]; exact Lib.hid rfl
    clear h h97
    go_enter Try.func92, Try.ntmps92
    go_wp2
    go_ret
    exact ⟨ret_int hs.out.symm, rfl⟩
  · rw [if_neg h97] at hb
    have hs : Hid (sgnB c = -1) := by unfold sgnB; rw [if_neg h97]; exact Lib.hid rfl
    clear h h97
    go_enter Try.func92, Try.ntmps92
    go_wp2
    go_ret
    exact ⟨ret_int hs.out.symm, rfl⟩

end Go.Proofs.Ytdhmicpoigoleaa

/- The contracts of the model's 'SumTurned' and 'SumPut'. -/

namespace Go.Proofs.Ytdhmicpoigoleaa
open Go.RowKit Go.Shelf

/-- A term whose word is changed. -/
def mapT (f : List UInt8 → List UInt8) (t : Tm) : Tm := ⟨t.c, bstr (f t.s.data.toList)⟩
def fitB (ts : List Tm) : Bool := ts.all fun t => decide (t.s.size ≤ 60)
theorem fitB_at {ts : List Tm} {k : Nat} (hk : k < ts.length) (h : ¬ ts[k].s.size ≤ 60) : fitB ts = false :=
  List.all_eq_false.2 ⟨_, List.getElem_mem hk, by simpa using h⟩
theorem fitB_of {ts : List Tm} (h : ∀ j (hj : j < ts.length), ts[j].s.size ≤ 60) : fitB ts = true :=
  List.all_eq_true.2 fun t ht => by
    obtain ⟨j, hj, rfl⟩ := List.getElem_of_mem ht
    simpa using h j hj
theorem termB_word {t : Tm} (h : termB t = true) : wordB t.s.data.toList = true := by unfold termB at h; simp only [Bool.and_eq_true] at h; exact h.1

def putF (zs : List ByteArray) (l : List UInt8) : List UInt8 := redL [] (putL zs l)

end Go.Proofs.Ytdhmicpoigoleaa

/- The contracts of the model's 'l2Times' and 'SumTimes'. -/

namespace Go.Proofs.Ytdhmicpoigoleaa
open Go.RowKit Go.Shelf

/-- The product of two terms, and those of all pairs. -/
def pairT (t u : Tm) : Tm := ⟨t.c * u.c, bstr (redL [] (t.s.data.toList ++ u.s.data.toList))⟩
def pairsT (x y : List Tm) : List Tm := x.flatMap fun t => y.map (pairT t)
theorem pairs_succ (x y : List Tm) (k : Nat) (h : k < x.length) : pairsT (x.take (k + 1)) y = pairsT (x.take k) y ++ y.map (pairT x[k]) := by
  unfold pairsT
  rw [List.take_succ_eq_append_getElem h, List.flatMap_append]
  simp
theorem pairs_zero (y : List Tm) : pairsT [] y = [] := rfl
theorem pairs_len (x y : List Tm) : (pairsT x y).length = x.length * y.length := by
  unfold pairsT
  induction x with
  | nil => simp
  | cons t r ih => rw [List.flatMap_cons, List.length_append, ih, List.length_map, List.length_cons, Nat.succ_mul]; omega
theorem map_succ (f : Tm → Tm) (y : List Tm) (j : Nat) (h : j < y.length) : (y.take (j + 1)).map f = (y.take j).map f ++ [f y[j]] := by
  rw [List.take_succ_eq_append_getElem h, List.map_append]; rfl
theorem mul_bnd {a b : Int} (ha : -1000000 ≤ a ∧ a ≤ 1000000) (hb : -1000000 ≤ b ∧ b ≤ 1000000) : -1000000000000 ≤ a * b ∧ a * b ≤ 1000000000000 := by
  have h : (a * b).natAbs ≤ 1000000 * 1000000 := by
    rw [Int.natAbs_mul]
    exact Nat.mul_le_mul (by omega) (by omega)
  omega

def TimesNo (w : World) (e : Ending) (w' : World) : Prop := ∃ g n cap, e = .returned (.tuple #[.slice (some ⟨g, 0, none⟩) n cap, .bool false]) ∧ Below w.heap.size w w'
end Go.Proofs.Ytdhmicpoigoleaa

/- The contract of the model's 'FoxSum'. -/

namespace Go.Proofs.Ytdhmicpoigoleaa
open Go.RowKit Go.Shelf

theorem mul_bnd60 {a b : Int} (ha : -1000000 ≤ a ∧ a ≤ 1000000) (hb : -60 ≤ b ∧ b ≤ 60) : -60000000 ≤ a * b ∧ a * b ≤ 60000000 := by
  have h : (a * b).natAbs ≤ 1000000 * 60 := by
    rw [Int.natAbs_mul]
    exact Nat.mul_le_mul (by omega) (by omega)
  omega
theorem scale_succ (c : Int) (ds acc : List Tm) (j : Nat) (h : j < ds.length) : (scaleT c (ds.take (j + 1))).foldl addT acc = addT ((scaleT c (ds.take j)).foldl addT acc) ⟨c * ds[j].c, ds[j].s⟩ := by
  unfold scaleT
  rw [List.take_succ_eq_append_getElem h, List.map_append, List.foldl_append]; rfl

/-- What FoxSum answers. -/
def foxSumB (x : List Tm) (g : Int) : Bool := sumB x && (inR 0 3 g && twB (canonT (foxI g x)))

theorem foxSumB_tw {x : List Tm} {g : Int} {b : Bool} (h : foxSumB x g = b) : b = true → twB (canonT (foxI g x)) = true := by
  intro hb
  subst hb
  unfold foxSumB at h
  simp only [Bool.and_eq_true] at h
  exact h.2.2
end Go.Proofs.Ytdhmicpoigoleaa

/- The contracts of the model's 'l4Times', 'l4Done' and 'SeriesTimes'. -/

namespace Go.Proofs.Ytdhmicpoigoleaa
open Go.RowKit Go.Shelf

/-- The product of two terms whose words are put one behind the other; those of all pairs that are not too long. -/
def pairS (t u : Tm) : Tm := ⟨t.c * u.c, t.s ++ u.s⟩
def short (t : Tm) : Bool := decide (t.s.size ≤ 4)
def pairsS (x y : List Tm) : List Tm := x.flatMap fun t => (y.map (pairS t)).filter short
theorem pairsS_succ (x y : List Tm) (k : Nat) (h : k < x.length) : pairsS (x.take (k + 1)) y = pairsS (x.take k) y ++ (y.map (pairS x[k])).filter short := by
  unfold pairsS
  rw [List.take_succ_eq_append_getElem h, List.flatMap_append]
  simp
def rowS (t : Tm) (y : List Tm) : List Tm := (y.map (pairS t)).filter short
theorem rowS_succ (t : Tm) (y : List Tm) (j : Nat) (h : j < y.length) : rowS t (y.take (j + 1)) = rowS t (y.take j) ++ (if (t.s ++ y[j].s).size ≤ 4 then [pairS t y[j]] else []) := by
  unfold rowS
  rw [map_succ (pairS t) y j h, List.filter_append, List.filter_cons, List.filter_nil]
  congr 1
  by_cases hs : (t.s ++ y[j].s).size ≤ 4
  · rw [if_pos (show short (pairS t y[j]) = true from decide_eq_true hs), if_pos hs]
  · rw [if_neg (show ¬ short (pairS t y[j]) = true by unfold short pairS; simpa using hs), if_neg hs]

/-- What fits into the products of series. -/
def SerL (x : List Tm) : Prop := x.length ≤ 400 ∧ ∀ t ∈ x, t.s.size ≤ 4 ∧ -1000000 ≤ t.c ∧ t.c ≤ 1000000

theorem serB_is (ts : List Tm) : serB ts = ((List.range ts.length).all (serAt ts) && decide (ts.length ≤ 400)) := rfl
theorem serB_parts {ts : List Tm} (h : serB ts = true) : ts.length ≤ 400 ∧ (∀ t ∈ ts, t.c ≠ 0 ∧ (-1000000 ≤ t.c ∧ t.c ≤ 1000000) ∧ monoB t.s = true) ∧ Canon ts := by
  rw [serB_is] at h
  simp only [Bool.and_eq_true, decide_eq_true_eq] at h
  obtain ⟨h1, h2⟩ := h
  have hat : ∀ j (hj : j < ts.length), ts[j].c ≠ 0 ∧ (-1000000 ≤ ts[j].c ∧ ts[j].c ≤ 1000000) ∧ monoB ts[j].s = true ∧ (j = 0 ∨ lessW (ts.getD (j - 1) default).s (ts.getD j default).s = true) := fun j hj => by
    have h3 := List.all_eq_true.1 h1 j (List.mem_range.2 hj)
    have hg : ts.getD j default = ts[j] := by rw [List.getD_eq_getElem?_getD, List.getElem?_eq_getElem hj]; rfl
    unfold serAt inR at h3
    simp only [Bool.and_eq_true, bne_iff_ne, ne_eq, Bool.or_eq_true, decide_eq_true_eq] at h3
    rw [hg] at h3 ⊢
    exact ⟨h3.1.1.1, h3.1.1.2, h3.1.2, h3.2⟩
  refine ⟨h2, fun t ht => ?_, pairwise_lessW fun k hk hk0 => ?_, fun t ht => ?_⟩
  · obtain ⟨j, hj, rfl⟩ := List.getElem_of_mem ht
    exact ⟨(hat j hj).1, (hat j hj).2.1, (hat j hj).2.2.1⟩
  · rcases (hat k hk).2.2.2 with h | h
    · omega
    · exact h
  · obtain ⟨j, hj, rfl⟩ := List.getElem_of_mem ht
    exact (hat j hj).1
theorem mono_size {s : ByteArray} (h : monoB s = true) : s.size ≤ 4 := by
  unfold monoB at h
  simp only [Bool.and_eq_true, decide_eq_true_eq] at h
  exact h.2
theorem serL_of {ts : List Tm} (h : serB ts = true) : SerL ts := by
  obtain ⟨h1, h2, _⟩ := serB_parts h
  exact ⟨h1, fun t ht => ⟨mono_size (h2 t ht).2.2, (h2 t ht).2.1⟩⟩
/-- For canonical lists only the terms have to be looked at. -/
def twS (ts : List Tm) : Bool := decide (ts.length ≤ 400) && ts.all fun t => inR (-1000000) 1000000 t.c && monoB t.s
theorem serB_canon {ts : List Tm} (h : Canon ts) : serB ts = twS ts := by
  rw [serB_is, Bool.and_comm]
  unfold twS
  congr 1
  have hg : ∀ j (h : j < ts.length), ts.getD j default = ts[j] := fun j h => by rw [List.getD_eq_getElem?_getD, List.getElem?_eq_getElem h]; rfl
  rw [Bool.eq_iff_iff]
  simp only [List.all_eq_true, List.mem_range]
  constructor
  · intro h1 t ht
    obtain ⟨j, hj, rfl⟩ := List.getElem_of_mem ht
    have h3 := h1 j hj
    unfold serAt at h3
    rw [hg j hj] at h3
    simp only [Bool.and_eq_true] at h3 ⊢
    exact ⟨h3.1.1.2, h3.1.2⟩
  · intro h1 j hj
    have h3 := h1 _ (List.getElem_mem hj)
    simp only [Bool.and_eq_true] at h3
    unfold serAt
    rw [hg j hj, h3.1, h3.2]
    have h4 : (ts[j].c != 0) = true := by simpa using h.2 _ (List.getElem_mem hj)
    rw [h4]
    by_cases hj0 : j = 0
    · simp [hj0]
    · have h5 := List.pairwise_iff_getElem.1 h.1 (j - 1) j (by omega) hj (by omega)
      rw [hg (j - 1) (by omega), h5]
      simp
theorem twS_parts {ts : List Tm} (h : twS ts = true) : ts.length ≤ 400 ∧ ∀ t ∈ ts, (-1000000 ≤ t.c ∧ t.c ≤ 1000000) ∧ monoB t.s = true := by
  unfold twS inR at h
  simp only [Bool.and_eq_true, decide_eq_true_eq, List.all_eq_true] at h
  exact h
theorem told_smallS {b : Bool} {L us : List Tm} (h : b = true → twS L = true) (hus : cond b L [] = us) : SmallT us ∧ us.length ≤ 400 := by
  cases b with
  | false => subst hus; exact ⟨⟨Nat.zero_le _, fun t h => by cases h⟩, Nat.zero_le _⟩
  | true =>
    have hus : L = us := hus
    subst hus
    obtain ⟨h1, h2⟩ := twS_parts (h rfl)
    exact ⟨⟨by unfold maxLen; omega, fun t ht => by have := h2 t ht; have := mono_size this.2; unfold maxLen; omega⟩, h1⟩
/-- What SeriesTimes answers. -/
def serProdB (x y : List Tm) : Bool := serB x && (serB y && twS (canonT (pairsS x y)))
theorem serProdB_tw {x y : List Tm} {b : Bool} (h : serProdB x y = b) : b = true → twS (canonT (pairsS x y)) = true := by
  intro hb
  subst hb
  unfold serProdB at h
  simp only [Bool.and_eq_true] at h
  exact h.2.2

end Go.Proofs.Ytdhmicpoigoleaa

/- The contracts of the program's 'generatorsOnly', 'fitsLyndon' and 'LyndonIn'. -/

namespace Go.Proofs.Ytdhmicpoigoleaa
open Go.RowKit Go.Shelf

attribute [local go_sem] Oper.semAt_some

def genL (l : List UInt8) : Bool := l.all genB
theorem genL_append (a b : List UInt8) : genL (a ++ b) = (genL a && genL b) := by simp [genL]
theorem genL_prefix {p l : List UInt8} (hp : p <+: l) (h : genL p = false) : genL l = false := by
  obtain ⟨r, rfl⟩ := hp
  rw [genL_append, h]; rfl
theorem genB_let (c : UInt8) : genB c = (letB c && decide (0 ≤ sgnB c)) := by
  have h : ∀ n : Fin 256, genB (UInt8.ofNat n.val) = (letB (UInt8.ofNat n.val) && decide (0 ≤ sgnB (UInt8.ofNat n.val))) := by decide +kernel
  have := h ⟨c.toNat, c.toNat_lt⟩
  simpa using this

set_option maxRecDepth 100000 in
set_option maxHeartbeats 1000000 in
theorem gens_in (n : Nat) (hn : 30 ≤ n) (s : ByteArray) (w : World) (hs : s.size ≤ 12) :
    CallsIn Fence.wide n Try.prog 76 #[.string s] w fun e w' => e = .returned (.bool (genL s.data.toList)) ∧ Below w.heap.size w w' := by
  refine callsIn_of_wp_marks Try.func76 rfl trivial ?_ rfl
  simp only [Try.ntmps76, List.size_toArray, List.length_cons, List.length_nil, Nat.reduceAdd, Nat.reduceSub, Array.replicate_succ, Array.replicate_zero, List.push_toArray, List.append_toArray, List.nil_append, List.cons_append]
  gi_wp2_with fail
  refine ⟨trivial, fun _ => by omega, ?_⟩
  refine (callsIn_wide.2 (signsOf_any s _)).mono ?_
  rintro e w1 ⟨rfl, rfl⟩
  have b1 := (Boxed.new w 4 (.bool false)).alloc (.cells #[.string s] 9)
  have b2 := Boxed.new (w.alloc (.cells #[.bool false] 4)) 9 (.string s)
  rw [World.size_alloc] at b2
  have hB0 : Below w.heap.size w ((w.alloc (.cells #[.bool false] 4)).alloc (.cells #[.string s] 9)) := ((Below.refl _ w).alloc (Nat.le_refl _) _).alloc (by simp) _
  have hsz : ((w.alloc (.cells #[.bool false] 4)).alloc (.cells #[.string s] 9)).heap.size = w.heap.size + 2 := by simp
  obtain ⟨W0, hW0⟩ : ∃ W0, ((w.alloc (.cells #[.bool false] 4)).alloc (.cells #[.string s] 9)) = W0 := ⟨_, rfl⟩
  simp only [World.size_alloc]
  rw [hW0] at b1 b2 hB0 hsz ⊢
  clear hW0
  gi_wp2
  refine wpIn_rangeFunc_ownG rfl (by omega) (gf := 95) (lb := #[.pointer (some ⟨w.heap.size + 1, 0, none⟩)]) rfl trivial (enters_of Try.func95 (by kernel_rfl) rfl)
    (signs_seq s (by omega) W0 (w.heap.size + 1) W0.heap.size (by omega) (Nat.le_refl _) b2.cell (n - 1) (by omega)) belowK_t (belowK_b (Nat.le_refl _)) (Below.refl _ _) (fun _ => rfl)
    (fun pre W => Boxed W w.heap.size 4 (.bool false) ∧ genL pre = true ∧ Below W0.heap.size W0 W)
    (fun c pre W => ((c = .ret ∧ genL pre = false) ∧ Boxed W w.heap.size 4 (.bool false)) ∧ Below w.heap.size w W)
    (OwnFrom.and (Own.from (fun s A B row hs hg hr => boxed_own w.heap.size _ (fun _ : Unit => .bool false) () A B row hs hg hr) _) (OwnFrom.and (ownFrom_pure _ _) (ownFrom_below (Nat.le_refl _) (Nat.le_refl _))))
    (fun c => OwnFrom.and (Own.from (fun s A B row hs hg hr => ⟨hs.1, boxed_own w.heap.size _ (fun _ : Unit => .bool false) () A B row hs.2 hg hr⟩) _) (ownFrom_below (Nat.le_refl _) (by omega)))
    ⟨b1, rfl, Below.refl _ _⟩
    (fun x => { tmps := #[.string s, undef, .pointer (some ⟨w.heap.size, 0, none⟩), .int .u8 (x.toNat : Int), .string s, .func (.func 95) #[] #[.pointer (some ⟨w.heap.size + 1, 0, none⟩)], .int .u8 (x.toNat : Int), undef, undef, undef, undef, undef, undef, undef, undef], defers := [] }) ?assign ?body ?done ?stop
  case assign =>
    intro l x W K hK
    gi_wp2
    exact hK
  case body =>
    rintro l pre x W ⟨c1, hl, hB⟩ hlen
    have d1 := c1.cell
    have f1 := c1.frozen
    have C1 := Lib.hid c1
    have HL := Lib.hid hl
    have hBw : Below w.heap.size w W := hB0.trans (hB.mono (by omega))
    have HBw := Lib.hid hBw
    clear c1 hl hBw
    cases hx : letB x with
    | true =>
      have HX := Lib.hid hx
      by_cases hsg : 0 ≤ sgnB x
      · have hg : genB x = true := by rw [genB_let, hx]; simp [hsg]
        have HG := Lib.hid hg
        obtain ⟨u, hu⟩ : ∃ u, sgnB x = u := ⟨_, rfl⟩
        have HSX := Lib.hid (show ∀ W, Calls Try.prog 92 #[.int .u8 (x.toNat : Int)] W fun e w' => e = .returned (.int .i64 u) ∧ w' = W from fun W => by rw [← hu]; exact iSign_any x W hx)
        rw [hu] at hsg
        have hneg : ¬ u < 0 := by omega
        have hdu : decide (u < 0) = false := decide_eq_false hneg
        clear hx hg hu
        gi_wp2_with fail
        refine ⟨trivial, fun _ => by omega, ?_⟩
        refine (CallsIn.inRound l (callsIn_wide.2 (known_is x true W HX.out))).mono ?_
        rintro e w1 ⟨rfl, rfl⟩
        gi_wp2_with fail
        refine ⟨trivial, fun _ => by omega, ?_⟩
        refine (CallsIn.inRound l (callsIn_wide.2 (HSX.out _))).mono ?_
        rintro e w2 ⟨rfl, rfl⟩
        gi_wp2
        exact ⟨KeepsFrom.refl _ _, Below.refl _ _, C1.out, by rw [genL_append, HL.out]; simp [genL, HG.out], hB⟩
      · have hg : genB x = false := by rw [genB_let, hx]; simp [hsg]
        have HG := Lib.hid hg
        obtain ⟨u, hu⟩ : ∃ u, sgnB x = u := ⟨_, rfl⟩
        have HSX := Lib.hid (show ∀ W, Calls Try.prog 92 #[.int .u8 (x.toNat : Int)] W fun e w' => e = .returned (.int .i64 u) ∧ w' = W from fun W => by rw [← hu]; exact iSign_any x W hx)
        rw [hu] at hsg
        have hneg : u < 0 := by omega
        have hdu : decide (u < 0) = true := decide_eq_true hneg
        clear hx hg hu
        gi_wp2_with fail
        refine ⟨trivial, fun _ => by omega, ?_⟩
        refine (CallsIn.inRound l (callsIn_wide.2 (known_is x true W HX.out))).mono ?_
        rintro e w1 ⟨rfl, rfl⟩
        gi_wp2_with fail
        refine ⟨trivial, fun _ => by omega, ?_⟩
        refine (CallsIn.inRound l (callsIn_wide.2 (HSX.out _))).mono ?_
        rintro e w2 ⟨rfl, rfl⟩
        gi_wp2
        exact ⟨(KeepsOthers.setCell _ _ _).from _, ⟨⟨rfl, by rw [genL_append]; simp [genL, HG.out]⟩, C1.out.set _⟩, HBw.out.setCell (p := ⟨w.heap.size, 0, none⟩) (Nat.le_refl _) _⟩
    | false =>
      have HX := Lib.hid hx
      have HG := Lib.hid (show genB x = false by rw [genB_let, hx]; rfl)
      clear hx
      gi_wp2_with fail
      refine ⟨trivial, fun _ => by omega, ?_⟩
      refine (CallsIn.inRound l (callsIn_wide.2 (known_is x false W HX.out))).mono ?_
      rintro e w1 ⟨rfl, rfl⟩
      gi_wp2_with fail
      refine ⟨trivial, ?_⟩
      gi_wp2
      exact ⟨(KeepsOthers.setCell _ _ _).from _, ⟨⟨rfl, by rw [genL_append]; simp [genL, HG.out]⟩, C1.out.set _⟩, HBw.out.setCell (p := ⟨w.heap.size, 0, none⟩) (Nat.le_refl _) _⟩
  case done =>
    rintro D ys W hD rfl ⟨c1, hl, hB⟩ hK
    have hBW : Below w.heap.size w W := hB0.trans (hB.mono (by omega))
    have hDlt : D < W.heap.size := (Array.getElem?_eq_some_iff.1 hK).1
    have d1 := c1.cell
    have f1 := c1.frozen
    have C1 := Lib.hid c1
    have HK := Lib.hid hK
    have HL := Lib.hid hl
    clear c1 hK hl
    gi_wp2
    obtain ⟨W5, hW5⟩ : ∃ W5, W.setCell ⟨w.heap.size, 0, none⟩ (.bool true) = W5 := ⟨_, rfl⟩
    have e1 : Boxed W5 w.heap.size 4 (.bool true) := by rw [← hW5]; exact C1.out.set _
    have hK5 : W5.heap[D]? = some (.deferred (some [])) := by rw [← hW5]; exact (KeepsOthers.setCell _ _ _).same D _ HK.out rfl
    have hB5 : Below w.heap.size w W5 := by rw [← hW5]; exact hBW.setCell (p := ⟨w.heap.size, 0, none⟩) (Nat.le_refl _) _
    rw [hW5]
    clear hW5
    refine ⟨by simp, .inl ⟨_, _, rfl, run_takeDeferred hK5, ?_⟩⟩
    have g1 := (e1.kept (grownBy_putObj' W5 D (.deferred none)) (fun e => by cases e; omega)).cell
    refine ⟨.bool true, by simp [results, Try.f76, go_sem, g1], by rw [HL.out], hB5.trans (belowK_b (w := w) (Nat.le_refl _) W5 D _ _ (by omega) hK5 rfl rfl)⟩
  case stop =>
    rintro D c pre W hD hpre ⟨⟨⟨rfl, hl⟩, c1⟩, hB⟩ hK
    gi_wp2
    refine ⟨by simp, .inl ⟨_, _, rfl, run_takeDeferred hK, ?_⟩⟩
    have e1 := (c1.kept (grownBy_putObj' W D (.deferred none)) (fun e => by cases e; omega)).cell
    refine ⟨.bool false, by simp [results, Try.f76, go_sem, e1], by rw [genL_prefix hpre hl], hB.trans (belowK_b (w := w) (Nat.le_refl _) W D _ _ (by omega) hK rfl rfl)⟩

theorem gens_any (s : ByteArray) (b : Bool) (w : World) (hs : s.size ≤ 12) (hb : genL s.data.toList = b) :
    Calls Try.prog 76 #[.string s] w fun e w' => e = .returned (.bool b) ∧ Below w.heap.size w w' := by
  rw [← hb]; exact (callsIn_wide (n := 30)).1 (gens_in 30 (by omega) s w hs)

end Go.Proofs.Ytdhmicpoigoleaa

/- The contracts of the program's 'fitsLyndon', 'LyndonIn', 'split' and 'LyndonSplit'. -/

namespace Go.Proofs.Ytdhmicpoigoleaa
open Go.RowKit Go.Shelf

set_option maxRecDepth 100000 in
set_option maxHeartbeats 1000000 in
theorem fits_is (s : ByteArray) (b : Bool) (w : World) (hs : s.size ≤ maxLen) (hb : text12 s = b) :
    Calls Try.prog 52 #[.string s] w fun e w' => e = .returned (.bool b) ∧ Below w.heap.size w w' := by
  unfold maxLen at hs
  unfold text12 at hb
  by_cases h : s.size ≤ 12
  · rw [decide_eq_true h, Bool.and_true] at hb
    have HB := Lib.hid hb
    have hi : (s.size : Int) ≤ 12 := by omega
    clear hb
    go_enter Try.func52, Try.ntmps52
    go_wp2_with fail
    refine (gens_any s b _ h HB.out).mono ?_
    rintro e w1 ⟨rfl, hb1⟩
    go_wp2
    go_ret
    exact ⟨rfl, hb1⟩
  · rw [decide_eq_false h, Bool.and_false] at hb
    subst hb
    have hi : ¬ (s.size : Int) ≤ 12 := by omega
    go_enter Try.func52, Try.ntmps52
    go_wp2
    go_ret
    exact ⟨rfl, Below.refl _ w⟩
theorem text12_size {s : ByteArray} (h : text12 s = true) : s.size ≤ 12 := by
  unfold text12 at h; simp only [Bool.and_eq_true, decide_eq_true_eq] at h; exact h.2
/-- A text is empty or not: how the walk asks for it. -/
theorem text_none {s : ByteArray} (h : s.size = 0) : s.toList = [] := by
  rw [ByteArray.toList_eq]
  have h2 : s.data.toList.length = s.size := by simp
  exact List.length_eq_zero_iff.1 (by omega)
theorem text_some {s : ByteArray} (h : s.size ≠ 0) : ¬ s.toList = [] := fun e => by
  rw [ByteArray.toList_eq] at e
  have h2 : s.data.toList.length = s.size := by simp
  rw [e] at h2
  exact h h2.symm

set_option maxRecDepth 100000 in
set_option maxHeartbeats 1000000 in
theorem iLyndonIn_is (s : ByteArray) (b : Bool) (w : World) (hs : s.size ≤ maxLen) (hb : lynB s = b) :
    Calls Try.prog 23 #[.string s] w fun e w' => e = .returned (.bool b) ∧ Below w.heap.size w w' := by
  have hln : s.data.toList.length = s.size := by simp
  by_cases h0 : s.size = 0
  · have hbf : b = false := by
      rw [← hb]; unfold lynB lynL
      rw [decide_eq_false (by omega), Bool.false_and, Bool.and_false]
    subst hbf
    have h1 := text_none h0
    have h1b : (s.toList == ([] : List UInt8)) = true := by rw [h1]; rfl
    clear hb hln
    go_enter Try.func23, Try.ntmps23
    go_wp2
    go_ret
    exact ⟨rfl, Below.refl _ w⟩
  · have h1 := text_some h0
    have h1b : (s.toList == ([] : List UInt8)) = false := by simpa using h1
    obtain ⟨t, ht⟩ : ∃ t, text12 s = t := ⟨_, rfl⟩
    obtain ⟨l, hl⟩ : ∃ l, lynL s.data.toList = l := ⟨_, rfl⟩
    have hbb : (t && l) = b := by rw [← hb, ← ht, ← hl]; rfl
    have HT := Lib.hid ht
    have HL := Lib.hid hl
    have hpos : 0 < s.size := by omega
    clear hb ht hl hln
    cases t with
    | false =>
      obtain rfl : false = b := hbb
      go_enter Try.func23, Try.ntmps23
      go_wp2_with fail
      refine (fits_is s false _ hs HT.out).mono ?_
      rintro e w1 ⟨rfl, hb1⟩
      go_wp2
      go_ret
      exact ⟨rfl, hb1⟩
    | true =>
      obtain rfl : l = b := hbb
      go_enter Try.func23, Try.ntmps23
      go_wp2_with fail
      refine (fits_is s true _ hs HT.out).mono ?_
      rintro e w1 ⟨rfl, hb1⟩
      go_wp2_with fail
      refine (isLyn_L s l _ hs hpos HL.out).mono ?_
      rintro e w2 ⟨rfl, rfl⟩
      go_wp2
      go_ret
      exact ⟨rfl, hb1⟩

set_option maxRecDepth 100000 in
set_option maxHeartbeats 4000000 in
theorem iSplit_any (s : ByteArray) (w : World) (h2 : 2 ≤ s.size) (h12 : s.size ≤ 12) :
    Calls Try.prog 60 #[.string s] w fun e w' => e = .returned (.tuple #[.string (s.extract 0 (splitI s.data.toList)), .string (s.extract (splitI s.data.toList) s.size)]) ∧ Below w.heap.size w w' := by
  have hln : s.data.toList.length = s.size := by simp
  have HLn := Lib.hid hln
  have hmx : Try.prog.follows .mixedOrders = true := by kernel_rfl
  clear hln
  go_enter Try.func60, Try.ntmps60
  go_wp2
  go_loopw [4] (fun i wr => ∃ k : Nat, 1 ≤ k ∧ k < s.size ∧ i = .int .i64 k ∧ Hid (∀ j, 1 ≤ j → j < k → lynL (s.data.toList.drop j) = false) ∧ w = wr) (fun i _ => s.size - (intOf i).toNat)
  case atStart => exact ⟨1, Nat.le_refl _, by omega, rfl, Lib.hid (fun j h1 h2 => by omega), rfl⟩
  case round =>
    obtain ⟨k, hk1, hk, rfl, HJ, rfl⟩ := hrel
    have hle : (k : Int) ≤ s.size := by omega
    have hge : 0 ≤ (k : Int) := by omega
    obtain ⟨x, hx⟩ : ∃ x, s.extract k s.size = x := ⟨_, rfl⟩
    have hxl : x.data.toList = s.data.toList.drop k := by rw [← hx, ← extract_drop, ByteArray.toList_eq]
    have hxz : x.size = s.size - k := by
      have : x.data.toList.length = x.size := by simp
      rw [hxl, List.length_drop, HLn.out] at this
      omega
    have hxs : x.size ≤ maxLen := by unfold maxLen; omega
    cases hl : lynL (s.data.toList.drop k) with
    | true =>
      have HSp : Hid (splitI s.data.toList = k) := Lib.hid (splitF_at hk1 (by rw [HLn.out]; omega) HJ.out hl)
      have HL : Hid (lynL x.data.toList = true) := Lib.hid (by rw [hxl]; exact hl)
      have HX := Lib.hid hx
      clear hl hxl
      go_wp2_with fail
      refine (isLyn_L x true _ hxs (by omega) HL.out).mono ?_
      rintro e w1 ⟨rfl, rfl⟩
      clear hxz
      go_wp2
      refine wp_region_below hmx (by kernel_rfl) ?_
      repeat (((with_reducible refine wpQuiet_step (fun K hK => ?_)); go_simp; first | ((with_reducible refine hK _ ?_); clear hK K) | (refine (if_neg (by decide)).mpr ?_; (with_reducible refine hK _ ?_); clear hK K)))
      with_reducible refine wpQuiet_nil ?_
      rintro W ⟨⟨W, hW⟩, rfl⟩
      go_wp2
      go_ret2
      exact ⟨by rw [HSp.out, HX.out]; rfl, hW⟩
    | false =>
      have hk2 : k + 1 < s.size := by
        by_cases h : k + 1 = s.size
        · have := lyn_one (s.data.toList.drop k) (by rw [List.length_drop, HLn.out]; omega)
          rw [this] at hl; cases hl
        · omega
      have HL : Hid (lynL x.data.toList = false) := Lib.hid (by rw [hxl]; exact hl)
      have HLk := Lib.hid hl
      clear hl hxl
      go_wp2_with fail
      refine (isLyn_L x false _ hxs (by omega) HL.out).mono ?_
      rintro e w1 ⟨rfl, rfl⟩
      clear hxz
      go_wp2
      go_roundw
      case rel =>
        refine ⟨k + 1, by omega, hk2, by go_num, Lib.hid fun j h1 h2 => ?_, by trivial⟩
        by_cases e : j = k
        · subst e; exact HLk.out
        · exact HJ.out j h1 (by omega)
      case measure => simp [intOf]; omega

set_option maxRecDepth 100000 in
set_option maxHeartbeats 2000000 in
theorem iLyndonSplit_no (s : ByteArray) (w : World) (hs : s.size ≤ maxLen) (hb : split12 s = false) :
    Calls Try.prog 31 #[.string s] w fun e w' => e = .returned (.tuple #[.string { data := #[] }, .string { data := #[] }, .bool false]) ∧ Below w.heap.size w w' := by
  unfold split12 at hb
  cases h1 : lynB s with
  | false =>
    have H1 := Lib.hid h1
    clear h1 hb
    go_enter Try.func31, Try.ntmps31
    go_wp2_with fail
    refine (iLyndonIn_is s false _ hs H1.out).mono ?_
    rintro e w1 ⟨rfl, hb1⟩
    go_wp2
    go_ret3
    exact ⟨rfl, hb1⟩
  | true =>
    rw [h1, Bool.true_and] at hb
    have h0 : s.size < 2 := by simpa using hb
    have h00 : s.size = 1 := by
      have := (lynB_size h1).2
      omega
    have hi0 : (s.size : Int) = 1 := by omega
    have hbe : ((s.size : Int) == 1) = true := by simp [h00]
    have H1 := Lib.hid h1
    clear h1 hb h0 h00
    go_enter Try.func31, Try.ntmps31
    go_wp2_with fail
    refine (iLyndonIn_is s true _ hs H1.out).mono ?_
    rintro e w1 ⟨rfl, hb1⟩
    go_wp2
    go_ret3
    exact ⟨rfl, hb1⟩

set_option maxRecDepth 100000 in
set_option maxHeartbeats 2000000 in
theorem iLyndonSplit_yes (s : ByteArray) (w : World) (hs : s.size ≤ maxLen) (hb : split12 s = true) :
    Calls Try.prog 31 #[.string s] w fun e w' => e = .returned (.tuple #[.string (s.extract 0 (splitI s.data.toList)), .string (s.extract (splitI s.data.toList) s.size), .bool true]) ∧ Below w.heap.size w w' := by
  unfold split12 at hb
  simp only [Bool.and_eq_true, Bool.not_eq_true', decide_eq_false_iff_not] at hb
  obtain ⟨h1, h0⟩ := hb
  have hs12 := (lynB_size h1).1
  have hi0 : ¬ (s.size : Int) = 1 := by omega
  have hbe : ((s.size : Int) == 1) = false := by simp; omega
  have H1 := Lib.hid h1
  have HSp := Lib.hid (fun W => iSplit_any s W (by omega) hs12)
  obtain ⟨x, hx⟩ : ∃ x, s.extract 0 (splitI s.data.toList) = x := ⟨_, rfl⟩
  obtain ⟨y, hy⟩ : ∃ y, s.extract (splitI s.data.toList) s.size = y := ⟨_, rfl⟩
  rw [hx, hy] at HSp ⊢
  clear h1 hx hy
  go_enter Try.func31, Try.ntmps31
  go_wp2_with fail
  refine (iLyndonIn_is s true _ hs H1.out).mono ?_
  rintro e w1 ⟨rfl, hb1⟩
  have HB1 := Lib.hid hb1
  clear hb1
  go_wp2_with fail
  refine (HSp.out _).mono ?_
  rintro e w2 ⟨rfl, hb2⟩
  have HB2 := Lib.hid (HB1.out.trans (hb2.mono HB1.out.size))
  clear hb2
  go_wp2
  go_ret3
  exact ⟨rfl, HB2.out⟩

end Go.Proofs.Ytdhmicpoigoleaa

/- The contracts of the model's 'LyndonTurn' and 'LyndonSplit'. -/

namespace Go.Proofs.Ytdhmicpoigoleaa
open Go.RowKit

/-- A text with its first i letters put behind; the least one of the first k. -/
def rotB (s : ByteArray) (i : Nat) : ByteArray := s.extract i s.size ++ s.extract 0 i
def turnN (s : ByteArray) : Nat → ByteArray
  | 0 => s
  | k + 1 => if Op.bytesLess (rotB s (k + 1)).toList (turnN s k).toList then rotB s (k + 1) else turnN s k
/-- What LyndonTurn answers. -/
def turn12 (s : ByteArray) : Bool := text12 s && !(decide (s.size = 0))
theorem rotB_size (s : ByteArray) (i : Nat) (h : i ≤ s.size) : (rotB s i).size = s.size := by
  unfold rotB; rw [ByteArray.size_append, ByteArray.size_extract, ByteArray.size_extract]; omega
theorem turnN_size (s : ByteArray) : ∀ k, k ≤ s.size → (turnN s k).size = s.size
  | 0, _ => rfl
  | k + 1, h => by
    rw [turnN]
    split
    · exact rotB_size s (k + 1) h
    · exact turnN_size s k (by omega)

set_option maxRecDepth 100000 in
set_option maxHeartbeats 2000000 in
theorem sLyndonTurn_no (s : ByteArray) (w : World) (hs : s.size ≤ maxLen) (hb : turn12 s = false) :
    Calls Try.prog 36 #[.string s] w fun e w' => e = .returned (.tuple #[.string { data := #[] }, .bool false]) ∧ Below w.heap.size w w' := by
  unfold turn12 at hb
  cases h1 : text12 s with
  | false =>
    have H1 := Lib.hid h1
    clear h1 hb
    go_enter Try.func36, Try.ntmps36
    go_wp2_with fail
    refine (sText_is s false _ hs H1.out).mono ?_
    rintro e w1 ⟨rfl, rfl⟩
    go_wp2
    go_ret2
    exact ⟨rfl, Below.refl _ _⟩
  | true =>
    rw [h1, Bool.true_and] at hb
    have h0 : s.size = 0 := by simpa using hb
    have hi0 : (s.size : Int) = 0 := by omega
    have hbe : ((s.size : Int) == 0) = true := by simp [h0]
    have H1 := Lib.hid h1
    clear h1 hb h0
    go_enter Try.func36, Try.ntmps36
    go_wp2_with fail
    refine (sText_is s true _ hs H1.out).mono ?_
    rintro e w1 ⟨rfl, rfl⟩
    go_wp2
    go_ret2
    exact ⟨rfl, Below.refl _ _⟩

set_option maxRecDepth 100000 in
set_option maxHeartbeats 4000000 in
theorem sLyndonTurn_yes (s : ByteArray) (w : World) (hs : s.size ≤ maxLen) (hb : turn12 s = true) :
    Calls Try.prog 36 #[.string s] w fun e w' => e = .returned (.tuple #[.string (turnN s (s.size - 1)), .bool true]) ∧ Below w.heap.size w w' := by
  unfold turn12 at hb
  simp only [Bool.and_eq_true, Bool.not_eq_true', decide_eq_false_iff_not] at hb
  obtain ⟨h1, h0⟩ := hb
  have hs12 : s.size ≤ 12 := by unfold text12 at h1; simp only [Bool.and_eq_true, decide_eq_true_eq] at h1; exact h1.2
  have hi0 : ¬ (s.size : Int) = 0 := by omega
  have hbe : ((s.size : Int) == 0) = false := by simpa using h0
  have hmx : Try.prog.follows .mixedOrders = true := by kernel_rfl
  have H1 := Lib.hid h1
  clear h1
  go_enter Try.func36, Try.ntmps36
  go_wp2_with fail
  refine (sText_is s true _ hs H1.out).mono ?_
  rintro e w1 ⟨rfl, rfl⟩
  go_wp2
  go_loopw [4, 5] (fun t i wr => ∃ k : Nat, k ≤ s.size - 1 ∧ i = .int .i64 ((k + 1 : Nat) : Int) ∧ t = .string (turnN s k) ∧ Below w.heap.size w wr) (fun _ i _ => s.size - (intOf i).toNat)
  case atStart => exact ⟨0, Nat.zero_le _, rfl, rfl, Below.refl _ _⟩
  case round =>
    obtain ⟨k, hk, rfl, rfl, hB⟩ := hrel
    by_cases hlt : k < s.size - 1
    · have hlt1 : (k : Int) + 1 < s.size := by omega
      have hge1 : 0 ≤ (k : Int) + 1 := by omega
      have hle1 : (k : Int) + 1 ≤ s.size := by omega
      obtain ⟨x, hx⟩ : ∃ x, s.extract (k + 1) s.size = x := ⟨_, rfl⟩
      obtain ⟨y, hy⟩ : ∃ y, s.extract 0 (k + 1) = y := ⟨_, rfl⟩
      have hxy : x.size + y.size = s.size := by rw [← hx, ← hy, ByteArray.size_extract, ByteArray.size_extract]; omega
      have hn1 : ¬ 9223372036854775807 < x.size + y.size := by omega
      have hrot : rotB s (k + 1) = x ++ y := by unfold rotB; rw [hx, hy]
      obtain ⟨q, hq⟩ : ∃ q, x ++ y = q := ⟨_, rfl⟩
      rw [hq] at hrot
      obtain ⟨t, ht⟩ : ∃ t, turnN s k = t := ⟨_, rfl⟩
      have hstep : turnN s (k + 1) = if Op.bytesLess q.toList t.toList then q else t := by rw [turnN, hrot, ht]
      have HS := Lib.hid hstep
      rw [ht]
      clear hxy hrot hstep ht
      go_wp2
      refine wp_region_below hmx (by kernel_rfl) ?_
      repeat (((with_reducible refine wpQuiet_step (fun K hK => ?_)); go_simp; first | ((with_reducible refine hK _ ?_); clear hK K) | (refine (if_neg (by decide)).mpr ?_; (with_reducible refine hK _ ?_); clear hK K)))
      with_reducible refine wpQuiet_nil ?_
      rintro W ⟨⟨W, hW⟩, rfl⟩
      have hBW : Below w.heap.size w W := hB.trans (hW.mono hB.size)
      clear hx hy hq hn1
      cases hl : Op.bytesLess q.toList t.toList with
      | true =>
        have HS2 : Hid (turnN s (k + 1) = q) := Lib.hid (by rw [HS.out, if_pos hl])
        go_wp2
        go_roundw
        case rel => exact ⟨k + 1, by omega, by go_num, by rw [HS2.out], hBW⟩
        case measure => simp [intOf]; omega
      | false =>
        have HS2 : Hid (turnN s (k + 1) = t) := Lib.hid (by rw [HS.out, if_neg (by rw [hl]; exact Bool.false_ne_true)])
        go_wp2
        go_roundw
        case rel => exact ⟨k + 1, by omega, by go_num, by rw [HS2.out], hBW⟩
        case measure => simp [intOf]; omega
    · obtain rfl : k = s.size - 1 := by omega
      have hlt1 : ¬ (((s.size - 1 + 1 : Nat) : Int) < s.size) := by omega
      have hlt2 : ¬ (((s.size - 1 : Nat) : Int) + 1 < s.size) := by omega
      go_wp2
      go_ret2
      exact ⟨rfl, hB⟩

end Go.Proofs.Ytdhmicpoigoleaa

/- The contract of the program's 'LyndonTurn'. -/

namespace Go.Proofs.Ytdhmicpoigoleaa
open Go.RowKit Go.Shelf

theorem rot_start (s : ByteArray) : rotB s 0 = s := by
  unfold rotB
  refine bytes_ext ?_
  rw [ByteArray.data_append, Array.toList_append, ← ByteArray.toList_eq (s.extract 0 s.size), extract_drop, extract_take, bstr_toList]
  simp
/-- The least one of the first k turns. -/
def turnK (s : ByteArray) : Nat → ByteArray
  | 0 => s
  | k + 1 => turnN s k
theorem turnK_step (s : ByteArray) (k : Nat) : turnK s (k + 1) = if Op.bytesLess (rotB s k).toList (turnK s k).toList then rotB s k else turnK s k := by
  cases k with
  | zero => rw [rot_start]; unfold turnK; rw [bl_irrefl]; rfl
  | succ k => rfl

theorem min_le (t q : ByteArray) : (if (Op.bytesLess t.toList q.toList || t.toList == q.toList) = true then t else q) = if Op.bytesLess q.toList t.toList = true then q else t := by
  cases h : Op.bytesLess q.toList t.toList with
  | true =>
    have h1 := bl_asymm h
    have h2 : (t.toList == q.toList) = false := by
      have : t.toList ≠ q.toList := fun e => by rw [e, bl_irrefl] at h; cases h
      simpa using this
    rw [h1, h2]; rfl
  | false =>
    cases h1 : Op.bytesLess t.toList q.toList with
    | true => rfl
    | false =>
      have h2 := bl_tri _ _ h1 h
      rw [h2]; simp

set_option maxRecDepth 100000 in
set_option maxHeartbeats 2000000 in
theorem iLyndonTurn_no (s : ByteArray) (w : World) (hs : s.size ≤ maxLen) (hb : turn12 s = false) :
    Calls Try.prog 37 #[.string s] w fun e w' => e = .returned (.tuple #[.string { data := #[] }, .bool false]) ∧ Below w.heap.size w w' := by
  unfold turn12 at hb
  by_cases h0 : s.size = 0
  · have h1 := text_none h0
    have h1b : (s.toList == ([] : List UInt8)) = true := by rw [h1]; rfl
    clear hb
    go_enter Try.func37, Try.ntmps37
    go_wp2
    go_ret2
    exact ⟨rfl, Below.refl _ _⟩
  · have h1 := text_some h0
    have h1b : (s.toList == ([] : List UInt8)) = false := by simpa using h1
    rw [decide_eq_false h0, Bool.not_false, Bool.and_true] at hb
    have HT := Lib.hid hb
    clear hb
    go_enter Try.func37, Try.ntmps37
    go_wp2_with fail
    refine (fits_is s false _ hs HT.out).mono ?_
    rintro e w1 ⟨rfl, hb1⟩
    go_wp2
    go_ret2
    exact ⟨rfl, hb1⟩

set_option maxRecDepth 100000 in
set_option maxHeartbeats 4000000 in
theorem iLyndonTurn_yes (s : ByteArray) (w : World) (hs : s.size ≤ maxLen) (hb : turn12 s = true) :
    Calls Try.prog 37 #[.string s] w fun e w' => e = .returned (.tuple #[.string (turnN s (s.size - 1)), .bool true]) ∧ Below w.heap.size w w' := by
  unfold turn12 at hb
  simp only [Bool.and_eq_true, Bool.not_eq_true', decide_eq_false_iff_not] at hb
  obtain ⟨ht, h0⟩ := hb
  have hs12 := text12_size ht
  have h1 := text_some h0
  have h1b : (s.toList == ([] : List UInt8)) = false := by simpa using h1
  have hmx : Try.prog.follows .mixedOrders = true := by kernel_rfl
  have HT := Lib.hid ht
  clear ht
  go_enter Try.func37, Try.ntmps37
  go_wp2_with fail
  refine (fits_is s true _ hs HT.out).mono ?_
  rintro e w1 ⟨rfl, hb1⟩
  have HB1 := Lib.hid hb1
  clear hb1
  go_wp2
  go_loopw [4, 16] (fun t i wr => ∃ k : Nat, k ≤ s.size ∧ i = .int .i64 (k : Int) ∧ t = .string (turnK s k) ∧ Below w.heap.size w wr) (fun _ i _ => s.size - (intOf i).toNat)
  case atStart => exact ⟨0, Nat.zero_le _, rfl, rfl, HB1.out⟩
  case round =>
    obtain ⟨k, hk, rfl, rfl, hB⟩ := hrel
    by_cases hlt : k < s.size
    · have hlt1 : (k : Int) < s.size := by omega
      have hge1 : 0 ≤ (k : Int) := by omega
      have hle1 : (k : Int) ≤ s.size := by omega
      obtain ⟨x, hx⟩ : ∃ x, s.extract k s.size = x := ⟨_, rfl⟩
      obtain ⟨y, hy⟩ : ∃ y, s.extract 0 k = y := ⟨_, rfl⟩
      have hxy : x.size + y.size = s.size := by rw [← hx, ← hy, ByteArray.size_extract, ByteArray.size_extract]; omega
      have hn1 : ¬ 9223372036854775807 < x.size + y.size := by omega
      have hrot : rotB s k = x ++ y := by unfold rotB; rw [hx, hy]
      obtain ⟨q, hq⟩ : ∃ q, x ++ y = q := ⟨_, rfl⟩
      rw [hq] at hrot
      obtain ⟨t, ht⟩ : ∃ t, turnK s k = t := ⟨_, rfl⟩
      have hstep : turnK s (k + 1) = if Op.bytesLess q.toList t.toList then q else t := by rw [turnK_step, hrot, ht]
      obtain ⟨r, hr⟩ : ∃ r, turnK s (k + 1) = r := ⟨_, rfl⟩
      have hmin : ∀ W : World, (Builtin.min_ #[9, 9] 9 #[.string t, .string q]).run Try.prog W = .ok (.string r) W := fun W => by
        rw [← hr, hstep, ← min_le]
        show (Builtin.min_ #[9, 9] 9 #[.string t, .string q]).run Try.prog W = _
        have e : (Op.stringOp .leq t q).run Try.prog W = .ok (.bool (Op.bytesLess t.toList q.toList || t.toList == q.toList)) W := rfl
        cases hc : (Op.bytesLess t.toList q.toList || t.toList == q.toList) <;> simp [Builtin.min_, Builtin.min2, go_sem, e, hc]
      have HR := Lib.hid hr
      rw [ht]
      clear hxy hrot hstep ht hr
      go_wp2
      refine wp_region_below hmx (by kernel_rfl) ?_
      repeat (((with_reducible refine wpQuiet_step (fun K hK => ?_)); go_simp; first | ((with_reducible refine hK _ ?_); clear hK K) | (refine (if_neg (by decide)).mpr ?_; (with_reducible refine hK _ ?_); clear hK K)))
      with_reducible refine wpQuiet_nil ?_
      rintro W ⟨⟨W, hW⟩, rfl⟩
      have hBW : Below w.heap.size w W := hB.trans (hW.mono hB.size)
      clear hx hy hq hn1 hmin
      go_wp2
      go_roundw
      case rel => exact ⟨k + 1, by omega, by go_num, by rw [HR.out], hBW⟩
      case measure => simp [intOf]; omega
    · obtain rfl : k = s.size := by omega
      obtain ⟨t, ht⟩ : ∃ t, turnN s (s.size - 1) = t := ⟨_, rfl⟩
      have htk : turnK s s.size = t := by
        rw [← ht]
        obtain ⟨m, hm⟩ : ∃ m, s.size = m + 1 := ⟨s.size - 1, by omega⟩
        rw [hm]; rfl
      rw [htk]
      have HT2 := Lib.hid ht
      clear ht htk
      go_wp2
      go_ret2
      exact ⟨by rw [HT2.out]; rfl, hB⟩

end Go.Proofs.Ytdhmicpoigoleaa

/- The contracts of the program's 'bracket' and 'LyndonBracket'. -/

namespace Go.Proofs.Ytdhmicpoigoleaa
open Go.RowKit Go.Shelf

theorem lynB_parts {s : ByteArray} (h : lynB s = true) (h2 : 2 ≤ s.size) : lynB (s.extract 0 (splitI s.data.toList)) = true ∧ lynB (s.extract (splitI s.data.toList) s.size) = true := by
  have hln : s.data.toList.length = s.size := by simp
  obtain ⟨h12, _⟩ := lynB_size h
  unfold lynB text12 at h ⊢
  simp only [Bool.and_eq_true, decide_eq_true_eq] at h ⊢
  have e1 : (s.extract 0 (splitI s.data.toList)).data.toList = s.data.toList.take (splitI s.data.toList) := by rw [extract_take, bstr_toList]
  have e2 : (s.extract (splitI s.data.toList) s.size).data.toList = s.data.toList.drop (splitI s.data.toList) := by rw [← extract_drop, ByteArray.toList_eq]
  obtain ⟨g1, g2, _⟩ := splitI_lyn h.2 (by omega)
  rw [e1, e2]
  refine ⟨⟨⟨?_, ?_⟩, g1⟩, ⟨⟨?_, ?_⟩, g2⟩⟩
  · exact List.all_eq_true.2 fun c hc => List.all_eq_true.1 h.1.1 c (List.mem_of_mem_take hc)
  · rw [ByteArray.size_extract]; omega
  · exact List.all_eq_true.2 fun c hc => List.all_eq_true.1 h.1.1 c (List.mem_of_mem_drop hc)
  · rw [ByteArray.size_extract]; omega

set_option maxRecDepth 100000 in
set_option maxHeartbeats 4000000 in
theorem iBracket_in (k : Nat) : ∀ (s : ByteArray) (w : World), s.size ≤ k → lynB s = true →
    Calls Try.prog 61 #[.string s] w fun e w' => e = .returned (.tuple #[.string ((bracketF k s).getD { data := #[] }), .bool (bracketF k s).isSome]) ∧ Below w.heap.size w w' := by
  induction k with
  | zero =>
    intro s w hk hl
    have := (lynB_size hl).2
    omega
  | succ k ih =>
    intro s w hk hl
    obtain ⟨h12, h0⟩ := lynB_size hl
    have hnl : ¬ lynB s = false := by rw [hl]; exact Bool.noConfusion
    by_cases h1 : s.size = 1
    · have e : bracketF (k + 1) s = some s := by rw [bracketF, if_neg hnl, if_pos h1]
      rw [e]
      have hi1 : (s.size : Int) = 1 := by omega
      have hbe : ((s.size : Int) == 1) = true := by simp [h1]
      clear hl hnl e ih h1
      go_enter Try.func61, Try.ntmps61
      go_wp2
      go_ret2
      exact ⟨rfl, Below.refl _ _⟩
    · have hln : s.data.toList.length = s.size := by simp
      obtain ⟨hi1, hi2⟩ := splitI_in (l := s.data.toList) (by rw [hln]; omega)
      obtain ⟨hp1, hp2⟩ := lynB_parts hl (by omega)
      have e : bracketF (k + 1) s = (bracketF k (s.extract 0 (splitI s.data.toList))).bind fun x => (bracketF k (s.extract (splitI s.data.toList) s.size)).bind fun y => commO x y := by rw [bracketF, if_neg hnl, if_neg h1]
      rw [e]
      have hsp : ∀ W, _ := fun W => iSplit_any s W (by omega) h12
      obtain ⟨i, hi⟩ : ∃ i, splitI s.data.toList = i := ⟨_, rfl⟩
      rw [hi] at hsp hi1 hi2 hp1 hp2 ⊢
      rw [hln] at hi2
      obtain ⟨p, hp⟩ : ∃ p, s.extract 0 i = p := ⟨_, rfl⟩
      obtain ⟨q, hq⟩ : ∃ q, s.extract i s.size = q := ⟨_, rfl⟩
      have sp : p.size = i := by rw [← hp, ByteArray.size_extract]; omega
      have sq : q.size = s.size - i := by rw [← hq, ByteArray.size_extract]; omega
      rw [hp, hq] at hsp ⊢
      rw [hp] at hp1
      rw [hq] at hp2
      obtain ⟨op, hop⟩ : ∃ o, bracketF k p = o := ⟨_, rfl⟩
      obtain ⟨oq, hoq⟩ : ∃ o, bracketF k q = o := ⟨_, rfl⟩
      have H1 : Hid (∀ W, Calls Try.prog 61 #[.string p] W fun e w' => e = .returned (.tuple #[.string (op.getD { data := #[] }), .bool op.isSome]) ∧ Below W.heap.size W w') := Lib.hid fun W => by
        rw [← hop]; exact ih p W (by omega) hp1
      have H2 : Hid (∀ W, Calls Try.prog 61 #[.string q] W fun e w' => e = .returned (.tuple #[.string (oq.getD { data := #[] }), .bool oq.isSome]) ∧ Below W.heap.size W w') := Lib.hid fun W => by
        rw [← hoq]; exact ih q W (by omega) hp2
      rw [hop, hoq]
      have hpm : ∀ x, op = some x → x.size ≤ maxLen := fun x hx => by have := bracket_size (hop.trans hx); unfold maxLen; omega
      have hqm : ∀ x, oq = some x → x.size ≤ maxLen := fun x hx => by have := bracket_size (hoq.trans hx); unfold maxLen; omega
      have HPM := Lib.hid hpm
      have HQM := Lib.hid hqm
      have HSP := Lib.hid hsp
      have hn1 : ¬ (s.size : Int) = 1 := by omega
      have hbe : ((s.size : Int) == 1) = false := by simp; omega
      clear hl hnl e ih hsp hop hoq hp hq sp sq hln hi hpm hqm hp1 hp2
      go_enter Try.func61, Try.ntmps61
      go_wp2_with fail
      refine (HSP.out _).mono ?_
      rintro e w1 ⟨rfl, hb1⟩
      have HB1 := Lib.hid hb1
      clear hb1
      go_wp2_with fail
      refine (H1.out _).mono ?_
      rintro e w2 ⟨rfl, hb2⟩
      have HB2 := Lib.hid (HB1.out.trans (hb2.mono HB1.out.size))
      clear hb2
      cases op with
      | none =>
        go_wp2
        go_ret2
        exact ⟨rfl, HB2.out⟩
      | some x =>
        go_wp2_with fail
        refine (H2.out _).mono ?_
        rintro e w3 ⟨rfl, hb3⟩
        have HB3 := Lib.hid (HB2.out.trans (hb3.mono HB2.out.size))
        clear hb3
        cases oq with
        | none =>
          go_wp2
          go_ret2
          exact ⟨rfl, HB3.out⟩
        | some y =>
          obtain ⟨o, ho⟩ : ∃ o, commO x y = o := ⟨_, rfl⟩
          have HO := Lib.hid ho
          have hxm := HPM.out x rfl
          have hym := HQM.out y rfl
          clear ho
          go_wp2_with fail
          refine (iComm_any x y o _ hxm hym HO.out).mono ?_
          rintro e w4 ⟨rfl, hb4⟩
          have HB4 := Lib.hid (HB3.out.trans (hb4.mono HB3.out.size))
          clear hb4
          go_wp2
          go_ret2
          exact ⟨by rw [show ((some x).bind fun x => (some y).bind fun y => commO x y) = o from HO.out]; rfl, HB4.out⟩

set_option maxRecDepth 100000 in
set_option maxHeartbeats 2000000 in
theorem iLyndonBracket_any (s : ByteArray) (o : Option ByteArray) (w : World) (hs : s.size ≤ maxLen) (ho : bracketO s = o) :
    Calls Try.prog 35 #[.string s] w fun e w' => e = .returned (.tuple #[.string (o.getD { data := #[] }), .bool o.isSome]) ∧ Below w.heap.size w w' := by
  cases hl : lynB s with
  | false =>
    have e : bracketO s = none := by unfold bracketO; rw [bracketF, if_pos hl]
    obtain rfl : none = o := e.symm.trans ho
    have HL := Lib.hid hl
    clear hl e ho
    go_enter Try.func35, Try.ntmps35
    go_wp2_with fail
    refine (iLyndonIn_is s false _ hs HL.out).mono ?_
    rintro e w1 ⟨rfl, hb1⟩
    go_wp2
    go_ret2
    exact ⟨rfl, hb1⟩
  | true =>
    have HL := Lib.hid hl
    have HBr : Hid (∀ W, Calls Try.prog 61 #[.string s] W fun e w' => e = .returned (.tuple #[.string (o.getD { data := #[] }), .bool o.isSome]) ∧ Below W.heap.size W w') := Lib.hid fun W => by
      rw [← ho]; exact iBracket_in 12 s W (lynB_size hl).1 hl
    clear hl ho
    go_enter Try.func35, Try.ntmps35
    go_wp2_with fail
    refine (iLyndonIn_is s true _ hs HL.out).mono ?_
    rintro e w1 ⟨rfl, hb1⟩
    have HB1 := Lib.hid hb1
    clear hb1
    go_wp2_with fail
    refine (HBr.out _).mono ?_
    rintro e w2 ⟨rfl, hb2⟩
    have HB2 := Lib.hid (HB1.out.trans (hb2.mono HB1.out.size))
    clear hb2
    go_wp2
    go_ret2
    exact ⟨rfl, HB2.out⟩

end Go.Proofs.Ytdhmicpoigoleaa

/- The contracts of the program's 'moebius' and 'LyndonCount'. -/

namespace Go.Proofs.Ytdhmicpoigoleaa
open Go.RowKit

set_option maxRecDepth 100000 in
set_option maxHeartbeats 4000000 in
theorem iMu_is (d : Nat) (w : World) (h1 : 1 ≤ d) (h2 : d ≤ 12) :
    Calls Try.prog 59 #[.int .i64 d] w fun e w' => e = .returned (.int .i64 (muI d)) ∧ w = w' := by
  go_enter Try.func59, Try.ntmps59
  go_wp2
  go_loopw [0, 3, 4] (fun a o i wr => ∃ (f d' p : Nat) (o' : Int), 1 ≤ d' ∧ d' ≤ 12 ∧ 2 ≤ p ∧ p + f = 15 ∧ p ≤ 13 ∧ -1 ≤ o' ∧ o' ≤ 1 ∧ a = .int .i64 d' ∧ o = .int .i64 o' ∧ i = .int .i64 p ∧ Hid (muR f d' p o' = muI d) ∧ w = wr) (fun _ _ i _ => 14 - (intOf i).toNat)
  case atStart => exact ⟨13, d, 2, 1, h1, h2, by omega, by omega, by omega, by omega, by omega, rfl, rfl, rfl, Lib.hid rfl, rfl⟩
  case round =>
    obtain ⟨f, d', p, o', hd1, hd2, hp2, hpf, hp13, ho1, ho2, rfl, rfl, rfl, HM, rfl⟩ := hrel
    obtain ⟨f, rfl⟩ : ∃ g, f = g + 1 := ⟨f - 1, by omega⟩
    by_cases hlt : d' < p
    · have hle : ¬ (p : Int) ≤ d' := by omega
      go_wp2
      go_ret
      refine ⟨?_, rfl⟩
      rw [← HM.out, muR, if_pos hlt]
      rfl
    · have hle : (p : Int) ≤ d' := by omega
      have hp0 : ¬ (p : Int) = 0 := by omega
      by_cases hr : d' % p = 0
      · have hri : (d' : Int) % p = 0 := by omega
        have hrn : ((d' : Int) % p != 0) = false := by simp [hri]
        have hq1 : 1 ≤ d' / p := Nat.div_pos (by omega) (by omega)
        have hq2 : d' / p ≤ 12 := Nat.le_trans (Nat.div_le_self _ _) hd2
        have hqi : (d' : Int) / p = (d' / p : Nat) := by simp
        obtain ⟨q, hq⟩ : ∃ q, d' / p = q := ⟨_, rfl⟩
        rw [hq] at hqi hq1 hq2
        have HQ := Lib.hid hq
        have HR := Lib.hid hr
        clear hq hr
        by_cases hr2 : q % p = 0
        · have hri2 : (q : Int) % p = 0 := by omega
          have hrn2 : ((q : Int) % p == 0) = true := by simp [hri2]
          have HR2 := Lib.hid hr2
          clear hr2
          go_wp2
          go_ret
          refine ⟨?_, rfl⟩
          rw [← HM.out, muR, if_neg hlt, if_pos HR.out, HQ.out, if_pos HR2.out]
          rfl
        · have hri2 : ¬ (q : Int) % p = 0 := by omega
          have hrn2 : ((q : Int) % p == 0) = false := by simpa using hri2
          have HR2 := Lib.hid hr2
          clear hr2
          go_wp2
          go_roundw
          case rel =>
            refine ⟨f, q, p + 1, 0 - o', hq1, hq2, by omega, by omega, by omega, by omega, by omega, rfl, by go_num, by go_num, Lib.hid ?_, by trivial⟩
            rw [← HM.out, muR, if_neg hlt, if_pos HR.out, HQ.out, if_neg HR2.out]
          case measure => simp [intOf]; omega
      · have hri : ¬ (d' : Int) % p = 0 := by omega
        have hrn : ((d' : Int) % p != 0) = true := by simpa using hri
        have HR := Lib.hid hr
        clear hr
        go_wp2
        go_roundw
        case rel =>
          refine ⟨f, d', p + 1, o', hd1, hd2, by omega, by omega, by omega, ho1, ho2, rfl, rfl, by go_num, Lib.hid ?_, by trivial⟩
          rw [← HM.out, muR, if_neg hlt, if_neg HR.out]
        case measure => simp [intOf]; omega

/-- The sum over divisors up to m, from the least one on, of powers that grow. -/
def sumUp (k n : Nat) : Nat → Int
  | 0 => 0
  | m + 1 => if n % (m + 1) = 0 then sumUp k n m + muI (n / (m + 1)) * ((k ^ (m + 1) : Nat) : Int) else sumUp k n m
theorem sumUp_all : ∀ (k : Fin 5) (n : Fin 13), sumUp k.val n.val n.val = sumMuC k.val n.val n.val := by decide +kernel
theorem sumUp_is {k n : Nat} (hk : k ≤ 4) (hn : n ≤ 12) : sumUp k n n = sumMuC k n n := sumUp_all ⟨k, by omega⟩ ⟨n, by omega⟩
theorem iMu_cast (d : Nat) (z : Int) (w : World) (h1 : 1 ≤ d) (h2 : d ≤ 12) (hz : muI d = z) :
    Calls Try.prog 59 #[.int .i64 d] w fun e w' => e = .returned (.int .i64 z) ∧ w = w' := by
  subst hz
  exact iMu_is d w h1 h2

set_option maxRecDepth 100000 in
set_option maxHeartbeats 4000000 in
theorem iLyndonCount_yes (k n : Nat) (w : World) (hk1 : 1 ≤ k) (hk4 : k ≤ 4) (hn1 : 1 ≤ n) (hn2 : n ≤ 12) :
    Calls Try.prog 29 #[.int .i64 k, .int .i64 n] w fun e w' => e = .returned (.tuple #[.int .i64 (countI k n), .bool true]) ∧ w = w' := by
  have hk1i : (1 : Int) ≤ k := by omega
  have hk4i : (k : Int) ≤ 4 := by omega
  have hn1i : (1 : Int) ≤ n := by omega
  have hn2i : (n : Int) ≤ 12 := by omega
  have hd1 : decide ((k : Int) < 1) = false := decide_eq_false (by omega)
  have hd2 : decide ((4 : Int) < k) = false := decide_eq_false (by omega)
  have hd3 : decide ((n : Int) < 1) = false := decide_eq_false (by omega)
  have hd4 : decide ((12 : Int) < n) = false := decide_eq_false (by omega)
  have hn0 : ¬ (n : Int) = 0 := by omega
  go_enter Try.func29, Try.ntmps29
  go_wp2
  go_loopw [6, 7, 8] (fun s y d wr => ∃ (m p : Nat) (x : Int), m ≤ n ∧ d = .int .i64 ((m + 1 : Nat) : Int) ∧ s = .int .i64 x ∧ y = .int .i64 p ∧ p ≤ 16777216 ∧ -16777216 * (m : Int) ≤ x ∧ x ≤ 16777216 * (m : Int) ∧ Hid (k ^ m = p) ∧ Hid (sumUp k n m = x) ∧ w = wr) (fun _ _ d _ => 14 - (intOf d).toNat)
  case atStart => exact ⟨0, 1, 0, Nat.zero_le _, rfl, rfl, rfl, by omega, by omega, by omega, Lib.hid rfl, Lib.hid rfl, rfl⟩
  case round =>
    obtain ⟨m, p, x, hm, rfl, rfl, rfl, hp, hx1, hx2, HP, HX, rfl⟩ := hrel
    by_cases hlt : m = n
    · subst hlt
      go_wp2
      go_ret2
      refine ⟨?_, rfl⟩
      rw [countI, ← sumUp_is hk4 hn2, HX.out]
      rfl
    · have hlt1 : (m : Int) + 1 ≤ n := by omega
      have hcast : (n : Int) % ((m : Int) + 1) = ((n % (m + 1) : Nat) : Int) := by push_cast; rfl
      have hm0 : ¬ ((m : Int) + 1) = 0 := by omega
      have hyk : (p : Int) * k = ((p * k : Nat) : Int) := by push_cast; rfl
      have hyk2 : p * k ≤ 67108864 := Nat.le_trans (Nat.mul_le_mul hp hk4) (by decide)
      have hyk3 : p * k ≤ 16777216 := by
        rw [← HP.out, ← Nat.pow_succ]
        exact pow_le k (m + 1) hk4 (by omega)
      obtain ⟨y, hy⟩ : ∃ y, p * k = y := ⟨_, rfl⟩
      rw [hy] at hyk hyk2 hyk3
      have HY : Hid (k ^ (m + 1) = y) := Lib.hid (by rw [Nat.pow_succ, HP.out]; exact hy)
      clear hy
      by_cases hr : n % (m + 1) = 0
      · have hri : (n : Int) % ((m : Int) + 1) = 0 := by rw [hcast, hr]; rfl
        have hre : ((n : Int) % ((m : Int) + 1) == 0) = true := by simp [hri]
        have HR := Lib.hid hr
        have hqi : (n : Int) / ((m : Int) + 1) = ((n / (m + 1) : Nat) : Int) := by push_cast; rfl
        have hq12 : n / (m + 1) ≤ 12 := Nat.le_trans (Nat.div_le_self _ _) hn2
        have hq1 : 1 ≤ n / (m + 1) := Nat.div_pos (by omega) (by omega)
        obtain ⟨q, hq⟩ : ∃ q, n / (m + 1) = q := ⟨_, rfl⟩
        rw [hq] at hqi hq12 hq1
        have HQ := Lib.hid hq
        obtain ⟨z, hz⟩ : ∃ z, muI q = z := ⟨_, rfl⟩
        have hz1 := muI_le q
        rw [hz] at hz1
        have HZ := Lib.hid hz
        have hs := share_le z (y : Int) hz1.1 hz1.2 (by omega) (by omega)
        clear hr hq hcast hz
        go_wp2_with fail
        refine (iMu_cast q z _ hq1 hq12 HZ.out).mono ?_
        rintro e w1 ⟨rfl, rfl⟩
        go_wp2
        go_roundw
        case rel =>
          refine ⟨m + 1, y, x + z * y, by omega, by go_num, by go_num, by go_num, hyk3, by push_cast; omega, by push_cast; omega, HY, Lib.hid ?_, by trivial⟩
          rw [sumUp, if_pos HR.out, HX.out, HQ.out, HZ.out, HY.out]
        case measure => simp [intOf]; omega
      · have hri : ¬ (n : Int) % ((m : Int) + 1) = 0 := by rw [hcast]; omega
        have hre : ((n : Int) % ((m : Int) + 1) == 0) = false := by simpa using hri
        have HR := Lib.hid hr
        clear hr hcast
        go_wp2
        go_roundw
        case rel =>
          refine ⟨m + 1, y, x, by omega, by go_num, by go_num, by go_num, hyk3, by push_cast; omega, by push_cast; omega, HY, Lib.hid ?_, by trivial⟩
          rw [sumUp, if_neg HR.out, HX.out]
        case measure => simp [intOf]; omega

set_option maxRecDepth 100000 in
set_option maxHeartbeats 2000000 in
theorem iLyndonCount_no (k n : Int) (w : World) (hb : (inR 1 4 k && inR 1 12 n) = false) :
    Calls Try.prog 29 #[.int .i64 k, .int .i64 n] w fun e w' => e = .returned (.tuple #[.int .i64 0, .bool false]) ∧ w = w' := by
  unfold inR at hb
  simp only [Bool.and_eq_false_iff, decide_eq_false_iff_not] at hb
  by_cases h1 : k < 1
  · go_enter Try.func29, Try.ntmps29
    go_wp2
    go_ret2
    exact ⟨rfl, rfl⟩
  · by_cases h2 : 4 < k
    · go_enter Try.func29, Try.ntmps29
      go_wp2
      go_ret2
      exact ⟨rfl, rfl⟩
    · by_cases h3 : n < 1
      · go_enter Try.func29, Try.ntmps29
        go_wp2
        go_ret2
        exact ⟨rfl, rfl⟩
      · have h4 : 12 < n := by omega
        go_enter Try.func29, Try.ntmps29
        go_wp2
        go_ret2
        exact ⟨rfl, rfl⟩
theorem iLyndonCount_is (k n : Int) (w : World) (hb : (inR 1 4 k && inR 1 12 n) = true) :
    Calls Try.prog 29 #[.int .i64 k, .int .i64 n] w fun e w' => e = .returned (.tuple #[.int .i64 (countI k.toNat n.toNat), .bool true]) ∧ w = w' := by
  obtain ⟨a, b, rfl, rfl, h1, h2, h3, h4⟩ := countI_nat hb
  exact iLyndonCount_yes a b w h1 h2 h3 h4

end Go.Proofs.Ytdhmicpoigoleaa

/- The contract of the program's 'LyndonFactors'. -/

namespace Go.Proofs.Ytdhmicpoigoleaa
open Go.RowKit Go.Shelf

theorem ownSNil (base : Nat) (w : World) : OwnS base w (.slice none 0 0) [] := ⟨rfl, .inl ⟨rfl, rfl⟩⟩

set_option maxRecDepth 100000 in
theorem iFactors_no (s : ByteArray) (w : World) (hs : s.size ≤ maxLen) (hb : text12 s = false) :
    Calls Try.prog 33 #[.string s] w (SStrs w false []) := by
  have H := Lib.hid hb
  clear hb
  go_enter Try.func33, Try.ntmps33
  go_wp2_with fail
  refine (fits_is s false _ hs H.out).mono ?_
  rintro e w1 ⟨rfl, hb1⟩
  go_wp2
  go_ret2
  exact ⟨⟨_, rfl, ownSNil _ _⟩, hb1⟩

set_option maxRecDepth 100000 in
set_option maxHeartbeats 4000000 in
theorem iFactors_yes (s : ByteArray) (w : World) (hs : s.size ≤ maxLen) (hb : text12 s = true) :
    Calls Try.prog 33 #[.string s] w (SStrs w true (factL s)) := by
  obtain ⟨i0, hi, hz0, hz1, hz2⟩ := info_parts infoStr
  have hs12 : s.size ≤ 12 := by unfold text12 at hb; simp only [Bool.and_eq_true, decide_eq_true_eq] at hb; exact hb.2
  have H := Lib.hid hb
  clear hb
  go_enter Try.func33, Try.ntmps33
  go_wp2_with fail
  refine (fits_is s true _ hs H.out).mono ?_
  rintro e w1 ⟨rfl, hb1⟩
  have HB1 := Lib.hid hb1
  clear hb1
  go_wp2
  go_loopw [0, 4] (fun t v wr => ∃ (r : ByteArray) (zs : List ByteArray) (f : Nat), t = .string r ∧ r.size ≤ f ∧ f ≤ 12 ∧ zs.length + f ≤ 12 ∧ Hid (zs ++ factF f r = factL s) ∧ Hid (OwnS w.heap.size wr v zs) ∧ Below w.heap.size w wr) (fun t _ _ => match t with | .string r => r.size | _ => 0)
  case atStart => exact ⟨s, [], 12, rfl, hs12, Nat.le_refl _, by simp, Lib.hid rfl, Lib.hid (ownSNil _ _), HB1.out⟩
  case round =>
    obtain ⟨r, zs, f, rfl, hrf, hf, hzf, HF, HO, hB⟩ := hrel
    by_cases h0 : r.size = 0
    · have h1 := text_none h0
      have h1b : (r.toList == ([] : List UInt8)) = true := by rw [h1]; rfl
      have hfe : factF f r = [] := by
        cases f with
        | zero => rfl
        | succ f => rw [factF, if_pos h0]
      have hz : zs = factL s := by rw [← HF.out, hfe, List.append_nil]
      have HZ := Lib.hid hz
      have HH := HO
      clear hfe hz
      go_wp2
      go_ret2
      exact ⟨⟨_, rfl, by rw [← HZ.out]; exact HH.out⟩, hB⟩
    · have h1 := text_some h0
      have h1b : (r.toList == ([] : List UInt8)) = false := by simpa using h1
      obtain ⟨wo, rfl⟩ : ∃ wo : World, wo = wr := ⟨_, rfl⟩
      have hln : r.data.toList.length = r.size := by simp
      have HLn := Lib.hid hln
      obtain ⟨g, rfl⟩ : ∃ g, f = g + 1 := ⟨f - 1, by omega⟩
      have hr12 : r.size ≤ 12 := by omega
      clear hln
      go_wp2
      go_loopw [5] (fun i wr => ∃ n : Nat, 1 ≤ n ∧ n ≤ r.size ∧ i = .int .i64 n ∧ Hid (∀ j, n < j → j ≤ r.size → lynL (r.data.toList.take j) = false) ∧ wo = wr) (fun i _ => (intOf i).toNat)
      case atStart => exact ⟨r.size, by omega, Nat.le_refl _, rfl, Lib.hid (fun j h1 h2 => by omega), rfl⟩
      case round =>
        obtain ⟨n, hn1, hn, rfl, HJ, rfl⟩ := hrel
        have hle : (n : Int) ≤ r.size := by omega
        have hge : 0 ≤ (n : Int) := by omega
        obtain ⟨x, hx⟩ : ∃ x, r.extract 0 n = x := ⟨_, rfl⟩
        have hxl : x.data.toList = r.data.toList.take n := by rw [← hx, extract_take, bstr_toList]
        have hxz : x.size = n := by rw [← hx, ByteArray.size_extract]; omega
        have hxs : x.size ≤ maxLen := by unfold maxLen; omega
        cases hl : lynL (r.data.toList.take n) with
        | true =>
          have HPn : Hid (prefN r.data.toList r.size = n) := Lib.hid (prefN_at hn (by omega) HJ.out hl)
          have HL : Hid (lynL x.data.toList = true) := Lib.hid (by rw [hxl]; exact hl)
          obtain ⟨y, hy⟩ : ∃ y, r.extract n r.size = y := ⟨_, rfl⟩
          have hys : y.size = r.size - n := by rw [← hy, ByteArray.size_extract]; omega
          have HFa : Hid (factF (g + 1) r = x :: factF g y) := Lib.hid (by rw [factF, if_neg h0, HPn.out, hx, hy])
          have HYS := Lib.hid hys
          have hown := HO.out
          unfold OwnS at hown
          obtain ⟨N, hN⟩ : ∃ N, zs.length = N := ⟨_, rfl⟩
          rw [hN] at hown hzf
          have HOW := Lib.hid hown
          have HN := Lib.hid hN
          have hbs := hB.size
          clear hl hxl hown hN hys
          go_wp2_with fail
          refine (isLyn_L x true _ hxs (by omega) HL.out).mono ?_
          rintro e w1 ⟨rfl, rfl⟩
          go_wp2_with (at_builtin; refine wpList_append_lies _ rfl _ _ _ rfl w.heap.size 9 i0 _ 1 16 Try.underlying22 hi hz0 hz1 hz2 rfl (by omega) u4 N (strsV zs) rfl (HOW.out.alloc _) ⟨wo.heap.size, 0, none⟩ 1 1 [.string x] rfl rfl (World.news_of_block (cs := #[.string x]) (t := 9) (fr := (0, 0)) (heap_alloc_new wo _)) (by simp [Value.oneCell']) (by omega) (by unfold maxLen; omega) (by omega) (by simp; omega) (wo.heap.size + 1) (by simp) ?_; intro gg cap1 w7 hown7 hgrow7 hat hlt7)
          have hB7 : Below w.heap.size w w7 := hB.trans (((Below.refl w.heap.size wo).alloc hbs _).grown hgrow7 (by simp; omega) (ownsRow_low HOW.out))
          have HO7 := Lib.hid hown7
          clear hown7 hgrow7 hat hlt7
          go_wp2
          go_roundw
          case rel =>
            refine ⟨y, zs ++ [x], g, rfl, by have := HYS.out; omega, by omega, by rw [List.length_append, HN.out, List.length_singleton]; omega, Lib.hid ?_, Lib.hid ?_, hB7⟩
            · rw [List.append_assoc, List.singleton_append, ← HFa.out]; exact HF.out
            · unfold OwnS
              rw [List.length_append, HN.out, show strsV (zs ++ [x]) = strsV zs ++ [.string x] by simp [strsV]]
              exact HO7.out
          case measure =>
            have := HYS.out
            show y.size < r.size
            omega
        | false =>
          have hn2 : 2 ≤ n := by
            by_cases h : n = 1
            · subst h
              have := lyn_one' (r.data.toList.take 1) (by rw [List.length_take, HLn.out]; omega)
              rw [this] at hl; cases hl
            · omega
          have HL : Hid (lynL x.data.toList = false) := Lib.hid (by rw [hxl]; exact hl)
          have HLk := Lib.hid hl
          clear hl hxl
          go_wp2_with fail
          refine (isLyn_L x false _ hxs (by omega) HL.out).mono ?_
          rintro e w1 ⟨rfl, rfl⟩
          go_wp2
          go_roundw
          case rel =>
            refine ⟨n - 1, by omega, by omega, by go_num, Lib.hid fun j h1 h2 => ?_, by trivial⟩
            by_cases e : j = n
            · subst e; exact HLk.out
            · exact HJ.out j (by omega) h2
          case measure => simp [intOf]; omega

theorem iLyndonFactors_any (s : ByteArray) (b : Bool) (w : World) (hs : s.size ≤ maxLen) (hb : text12 s = b) :
    Calls Try.prog 33 #[.string s] w (SStrs w b (factL s)) := by
  cases b with
  | false => exact iFactors_no s w hs hb
  | true => exact iFactors_yes s w hs hb

end Go.Proofs.Ytdhmicpoigoleaa

/- The contract of the laws' 'heldStringS'. -/

namespace Go.Proofs.Ytdhmicpoigoleaa
open Go.RowKit Go.Shelf

theorem marksS_get (k n i : Nat) (h : i < (marksS k n).length) : (marksS k n)[i] = mkS (k + i) := by simp [marksS]
theorem marksS_small (k n : Nat) (hk : k ≤ 1000000) (hn : n ≤ 1048576) : ∀ s ∈ marksS k n, s.size ≤ maxLen := fun t ht => by
  unfold marksS at ht
  obtain ⟨i, hi, rfl⟩ := List.mem_map.1 ht
  have hi := List.mem_range.1 hi
  have := mkS_size (k + i)
  unfold maxLen
  omega

set_option maxRecDepth 100000 in
set_option maxHeartbeats 2000000 in
theorem heldStringS_any (k : Nat) (a : Option Addr) (cap n : Nat) (w : World) (hs : StrsAt w a (marksS k n)) (hn : n ≤ 1048576) (hk0 : 0 < k) (hk : k ≤ 1000000) :
    Calls Try.prog 27 #[.slice a n cap, .int .i64 k] w fun e w' => e = .returned (.int .i64 ((k + n : Nat) : Int)) ∧ Below w.heap.size w w' := by
  have HS := Lib.hid hs
  have hmx : Try.prog.follows .mixedOrders = true := by kernel_rfl
  clear hs
  go_enter Try.func27, Try.ntmps27
  go_wp2
  go_loopw [1, 5] (fun q i wr => ∃ j : Nat, j ≤ n ∧ q = .int .i64 ((k + j : Nat) : Int) ∧ i = .int .i64 j ∧ Below w.heap.size w wr) (fun _ i _ => n - (intOf i).toNat)
  case atStart => exact ⟨0, Nat.zero_le _, rfl, rfl, Below.refl _ _⟩
  case round =>
    obtain ⟨j, hj, rfl, rfl, hB⟩ := hrel
    by_cases hlt : j < n
    · obtain ⟨x, rfl, hb, hc⟩ := HS.out.cells (by rw [marksS_len]; omega)
      have hcj := (hB.cell (p := x.add j) (by rw [addr_add_block]; exact hb)).trans (hc j (by rw [marksS_len]; exact hlt))
      rw [marksS_get] at hcj
      obtain ⟨m, hm⟩ : ∃ m, k + j = m := ⟨_, rfl⟩
      have hm1 : m ≤ 4000000 := by omega
      have hm0 : 0 < m := by omega
      rw [hm] at hcj ⊢
      have hbx := Nat.lt_of_lt_of_le hb hB.size
      have v1 := BelowBy.cell (w := wr) (by show (x.add j).block < _; rw [addr_add_block]; exact hbx) hcj
      have HT : Hid (∀ W : World, Calls Try.prog 57 #[.int .i64 (m : Int)] W fun e w' => e = .returned (.string (mkS m)) ∧ Below W.heap.size W w') :=
        Lib.hid fun W => markText_any m W (by omega) (by omega)
      have HM := Lib.hid hm
      clear hm hc hcj
      go_wp2
      refine wp_region_below hmx (by kernel_rfl) ?_
      repeat (((with_reducible refine wpQuiet_step (fun K hK => ?_)); go_simp; first | ((with_reducible refine hK _ ?_); clear hK K) | (refine (if_neg (by decide)).mpr ?_; (with_reducible refine hK _ ?_); clear hK K) | (apply Exists.intro; (with_reducible refine ⟨fun _ => ?_, hK _ ?_⟩); (go_at_call 57; exact Calls.bel (HT.out _)); clear hK K)))
      with_reducible refine wpQuiet_nil ?_
      rintro W ⟨⟨W, hW⟩, rfl⟩
      clear v1
      have hBW : Below w.heap.size w W := hB.trans (hW.mono hB.size)
      change Exit.then _ _ _ _ W
      go_wp2
      go_roundw
      case rel => exact ⟨j + 1, by omega, by have := HM.out; go_num, by go_num, hBW⟩
      case measure => simp [intOf]; omega
    · obtain rfl : j = n := by omega
      go_wp2
      go_ret
      exact ⟨rfl, hB⟩

end Go.Proofs.Ytdhmicpoigoleaa

/- The contract of slices.Reverse at texts. -/

namespace Go.Proofs.Ytdhmicpoigoleaa
open Go.RowKit Go.Shelf

/-- The list with its first i and last i texts exchanged. -/
def Swapped (zs ys : List ByteArray) (i : Nat) : Prop := ys.length = zs.length ∧ ∀ p, p < zs.length → ys[p]? = if p < i ∨ zs.length - 1 - p < i then zs[zs.length - 1 - p]? else zs[p]?
theorem Swapped.all {zs ys : List ByteArray} {i : Nat} (h : Swapped zs ys i) (hi : zs.length ≤ 2 * i + 1) : ys = zs.reverse := by
  refine List.ext_getElem? fun p => ?_
  by_cases hp : p < zs.length
  · rw [h.2 p hp, List.getElem?_reverse hp]
    by_cases hc : p < i ∨ zs.length - 1 - p < i
    · rw [if_pos hc]
    · rw [if_neg hc, show zs.length - 1 - p = p by omega]
  · rw [List.getElem?_eq_none (by rw [h.1]; omega), List.getElem?_eq_none (by rw [List.length_reverse]; omega)]
theorem Swapped.step {zs ys : List ByteArray} {i j : Nat} (h : Swapped zs ys i) (hj : j + i + 1 = zs.length) (hij : i < j) {a b : ByteArray} (ha : ys[i]? = some a) (hb : ys[j]? = some b) : Swapped zs ((ys.set i b).set j a) (i + 1) := by
  have h1 := h.2 i (by omega)
  have h2 := h.2 j (by omega)
  rw [if_neg (by omega)] at h1 h2
  rw [ha] at h1
  rw [hb] at h2
  refine ⟨by rw [List.length_set, List.length_set]; exact h.1, fun p hp => ?_⟩
  by_cases ej : p = j
  · subst ej
    rw [List.getElem?_set_self (by rw [List.length_set, h.1]; exact hp), if_pos (by omega), show zs.length - 1 - p = i by omega]
    exact h1
  · rw [List.getElem?_set_ne (Ne.symm ej)]
    by_cases ei : p = i
    · subst ei
      rw [List.getElem?_set_self (by rw [h.1]; exact hp), if_pos (by omega), show zs.length - 1 - p = j by omega]
      exact h2
    · rw [List.getElem?_set_ne (Ne.symm ei), h.2 p hp]
      by_cases hc : p < i ∨ zs.length - 1 - p < i
      · rw [if_pos hc, if_pos (by omega)]
      · rw [if_neg hc, if_neg (by omega)]

set_option maxRecDepth 100000 in
set_option maxHeartbeats 4000000 in
theorem reverse_any (base : Nat) (v : Value) (zs : List ByteArray) (w : World) (h : OwnS base w v zs) (hn : zs.length ≤ 1048576) :
    Calls Try.prog 56 #[v] w fun e w' => e = .returned (.tuple #[]) ∧ OwnS base w' v zs.reverse ∧ w.grownBy w' v.ownBlock := by
  obtain ⟨a, cap, rfl⟩ : ∃ a cap, v = .slice a zs.length cap := by
    rcases h.2 with ⟨rfl, h0⟩ | ⟨g, cap, cur, rfl, _⟩
    · exact ⟨none, 0, by rw [h0]⟩
    · exact ⟨_, _, rfl⟩
  obtain ⟨n, hl⟩ : ∃ n, zs.length = n := ⟨_, rfl⟩
  unfold OwnS at h ⊢
  rw [List.length_reverse]
  rw [hl] at h hn ⊢
  have HH := Lib.hid h
  have HL := Lib.hid hl
  have hmx : Try.prog.follows .mixedOrders = true := by kernel_rfl
  have hwr0 : IntKind.i64.wrap ((n : Int) - 1) = (n : Int) - 1 := IntWalk.i64_in _ (by omega)
  clear h hl
  go_enter Try.func56, Try.ntmps56
  go_wp2
  go_loopw [2, 3] (fun s2 s3 wr => ∃ (i : Nat) (jz : Int) (ys : List ByteArray), s2 = .int .i64 (i : Int) ∧ s3 = .int .i64 jz ∧ jz = (n : Int) - 1 - i ∧ i ≤ n ∧ Hid (Swapped zs ys i) ∧ Hid (wr.ownsRow base 9 1 (.slice a n cap) n (strsV ys)) ∧ Hid (w.grownBy wr (Value.slice a n cap).ownBlock)) (fun i _ _ => n - (intOf i).toNat)
  case atStart => exact ⟨0, (n : Int) - 1, zs, rfl, rfl, by omega, by omega, Lib.hid ⟨rfl, fun p hp => by rw [if_neg (by omega)]⟩, HH, Lib.hid (grown_refl _ _)⟩
  case round =>
    obtain ⟨i, jz, ys, rfl, rfl, hjz, hi, HSw, HR, HG⟩ := hrel
    by_cases hlt : (i : Int) < jz
    · obtain ⟨j, rfl⟩ : ∃ j : Nat, jz = j := ⟨jz.toNat, by omega⟩
      obtain ⟨g, rfl, hg⟩ : ∃ g, a = some ⟨g, 0, none⟩ ∧ base ≤ g := by
        rcases HR.out.2 with ⟨_, e1⟩ | ⟨g, cap1, cur, e0, hg, _⟩
        · omega
        · simp only [Value.slice.injEq] at e0; exact ⟨g, e0.1, hg⟩
      have hln := HL.out
      have hyl : ys.length = n := HSw.out.1.trans hln
      have hiy : i < ys.length := by omega
      have hjy : j < ys.length := by omega
      obtain ⟨x, hx⟩ : ∃ x, ys[i] = x := ⟨_, rfl⟩
      obtain ⟨y, hy⟩ : ∃ y, ys[j] = y := ⟨_, rfl⟩
      have ci : wr.cell? ⟨g, i, none⟩ = some (.string x) := by rw [HR.out.cellAt _ (by omega)]; simp [strsV, hiy, hx]
      have cj : wr.cell? ⟨g, j, none⟩ = some (.string y) := by rw [HR.out.cellAt _ (by omega)]; simp [strsV, hjy, hy]
      have fi := HR.out.frozenAt i
      have fj := HR.out.frozenAt j
      have HX : Hid (ys[i]? = some x) := Lib.hid (by rw [List.getElem?_eq_getElem hiy, hx])
      have HY : Hid (ys[j]? = some y) := Lib.hid (by rw [List.getElem?_eq_getElem hjy, hy])
      have hin : i < n := by omega
      have hjn : j < n := by omega
      have HJ : Hid (j + i + 1 = n) := Lib.hid (by omega)
      clear hx hy hjz hln hyl hiy hjy
      go_wp2_with fail
      go_region_o
      go_wp2
      go_roundw
      case measure => simp [intOf]; omega
      case rel =>
        have h1 := HR.out.stored i (.string y)
        have h2 := h1.1.stored j (.string x)
        refine ⟨i + 1, (j : Int) - 1, (ys.set i y).set j x, by go_num, by go_num, by have := HJ.out; omega, by omega, Lib.hid (HSw.out.step (by rw [HL.out]; exact HJ.out) (by omega) HX.out HY.out), Lib.hid ?_, Lib.hid ?_⟩
        · have e : strsV ((ys.set i y).set j x) = ((strsV ys).set i (.string y)).set j (.string x) := by unfold strsV; rw [List.map_set, List.map_set]
          rw [e]
          exact ownsRow_past h2.1 (below_drewN (Below.refl _ _) 1)
        · exact grown_trans (grown_trans (grown_trans HG.out h1.2) h2.2) (grown_below _ (below_drewN (Below.refl _ _) 1))
    · go_wp2
      go_end0
      refine ⟨rfl, ?_, HG.out⟩
      rw [← HSw.out.all (by rw [HL.out]; omega)]
      exact HR.out

end Go.Proofs.Ytdhmicpoigoleaa

/- The contracts of the program's 'lyndonWords' and 'LyndonList': a closure that calls itself. -/

namespace Go.Proofs.Ytdhmicpoigoleaa
open Go.RowKit Go.Shelf

/-- What the closure finds: the letters from the greatest on, until one may not stand here. -/
def dnC (f : ByteArray → List ByteArray) (b : ByteArray) : Nat → List ByteArray
  | 0 => []
  | c + 1 => if mayL (b ++ chrB c).data.toList then f (b ++ chrB c) ++ dnC f b c else []
def growF (k : Nat) : Nat → ByteArray → List ByteArray
  | 0, b => if lynL b.data.toList then [b] else []
  | m + 1, b => dnC (growF k m) b k
theorem chr_list (b : ByteArray) (c : Nat) : (b ++ chrB c).data.toList = b.data.toList ++ [UInt8.ofNat (97 + c)] := by
  rw [ByteArray.data_append, Array.toList_append]; rfl
theorem chr_less {c d : Nat} (hc : c < d) (hd : d < 4) : UInt8.ofNat (97 + c) < UInt8.ofNat (97 + d) := by
  rw [UInt8.lt_iff_toNat_lt, UInt8.toNat_ofNat', UInt8.toNat_ofNat', Nat.mod_eq_of_lt (by omega), Nat.mod_eq_of_lt (by omega)]; omega
theorem allC_nil {f : ByteArray → List ByteArray} {b : ByteArray} : ∀ c, (∀ d, d < c → f (b ++ chrB d) = []) → allC f b c = []
  | 0, _ => rfl
  | c + 1, h => by rw [allC, allC_nil c (fun d hd => h d (by omega)), h c (by omega)]; rfl
theorem allF_nil (k : Nat) : ∀ (m : Nat) (b : ByteArray), (∀ e, lynL (b.data.toList ++ e) = false) → allF k m b = []
  | 0, b, h => by
    have := h []
    rw [List.append_nil] at this
    rw [allF, this]; rfl
  | m + 1, b, h => by
    rw [allF]
    exact allC_nil k fun d _ => allF_nil k m _ fun e => by rw [chr_list, List.append_assoc]; exact h _
theorem dnC_all {k m : Nat} (ih : ∀ b, (growF k m b).reverse = allF k m b) (b : ByteArray) : ∀ c, c ≤ 4 → (dnC (growF k m) b c).reverse = allC (allF k m) b c
  | 0, _ => rfl
  | c + 1, hc => by
    rw [dnC]
    cases hm : mayL (b ++ chrB c).data.toList with
    | true => rw [if_pos rfl, List.reverse_append, ih, dnC_all ih b c (by omega), allC]
    | false =>
      rw [if_neg Bool.false_ne_true]
      refine (allC_nil (c + 1) fun d hd => allF_nil k m _ fun e => ?_).symm
      rw [chr_list] at hm ⊢
      by_cases hdc : d = c
      · subst hdc; exact may_lyn hm e
      · exact may_lyn (may_less hm (chr_less (by omega) (by omega))) e
theorem growF_all (k : Nat) (hk : k ≤ 4) : ∀ m b, (growF k m b).reverse = allF k m b
  | 0, b => by rw [growF, allF]; split <;> rfl
  | m + 1, b => by rw [growF, allF]; exact dnC_all (growF_all k hk m) b k hk
theorem growF_len (k : Nat) (hk : k ≤ 4) (m : Nat) (b : ByteArray) : (growF k m b).length ≤ 4 ^ m := by
  rw [← List.length_reverse, growF_all k hk]; exact allF_len k hk m b

abbrev GroT : TypeId := 71
abbrev StrsT : TypeId := 22
abbrev pt (B : Nat) : Value := .pointer (some ⟨B, 0, none⟩)
abbrev groV (B : Nat) : Value := .func (.func 77) #[] #[pt B, pt (B + 1), pt (B + 3), pt (B + 2)]
/-- The four boxes that the closure holds, from block B on. -/
structure Gro (w : World) (B k n : Nat) (zs : List ByteArray) : Prop where
  bk : Boxed w B 3 (.int .i64 k)
  bn : Boxed w (B + 1) 3 (.int .i64 n)
  bg : Boxed w (B + 3) GroT (groV B)
  own : ∃ v, Boxed w (B + 2) StrsT v ∧ OwnS B w v zs
  size : B + 4 ≤ w.heap.size
theorem Gro.below {w w' : World} {B k n : Nat} {zs : List ByteArray} (h : Gro w B k n zs) (hb : Below w.heap.size w w') : Gro w' B k n zs := by
  obtain ⟨v, h1, h2⟩ := h.own
  have hg := grown_below (row := none) hb
  exact ⟨h.bk.kept hg (by simp), h.bn.kept hg (by simp), h.bg.kept hg (by simp), ⟨v, h1.kept hg (by simp), h2.below hb⟩, Nat.le_trans h.size hb.size⟩
theorem genText_is (g : Nat) (x : ByteArray) (w : World) (hg : g < 4) (hx : chrB g = x) :
    Calls Try.prog 78 #[.int .i64 g] w fun e w' => e = .returned (.string x) ∧ Below w.heap.size w w' := by
  rw [← hx]; exact genText_any g w hg

def GrowsTo (k n B m : Nat) : Prop := ∀ (b : ByteArray) (zs : List ByteArray) (w : World), b.size + m + 1 = n → zs.length + 4 ^ (m + 1) ≤ 4096 → Gro w B k n zs →
    Calls Try.prog 77 #[.string b, pt B, pt (B + 1), pt (B + 3), pt (B + 2)] w fun e w' => e = .returned (.tuple #[]) ∧ Gro w' B k n (zs ++ growF k (m + 1) b) ∧ Below B w w'

set_option maxRecDepth 100000 in
set_option maxHeartbeats 8000000 in
theorem grow_step (k n B : Nat) (hk4 : k ≤ 4) (hn : n ≤ 6) (m : Nat) (ih : ∀ m', m = m' + 1 → GrowsTo k n B m') : GrowsTo k n B m := by
  obtain ⟨i0, hi, hz0, hz1, hz2⟩ := info_parts infoStr
  intro b zs w hbn hz hG
  have HG := Lib.hid hG
  have ck := hG.bk.cell
  have hwr : IntKind.i64.wrap ((k : Int) - 1) = (k : Int) - 1 := IntWalk.i64_in _ (by omega)
  have HZ := Lib.hid hz
  have HIH := Lib.hid ih
  clear hG hz ih
  go_enter Try.func77, Try.ntmps77
  go_wp2
  go_step3
  go_wp2
  go_step3
  go_wp2
  clear ck
  go_loopw [6] (fun i wr => ∃ (c : Nat) (iz : Int) (ys : List ByteArray), c ≤ k ∧ i = .int .i64 iz ∧ iz = (c : Int) - 1 ∧ Hid (ys.length + c * 4 ^ m ≤ 4096) ∧ Hid (ys ++ dnC (growF k m) b c = zs ++ growF k (m + 1) b) ∧ Hid (Gro wr B k n ys) ∧ Below B w wr) (fun i _ => (intOf i + 1).toNat)
  case atStart => exact ⟨k, (k : Int) - 1, zs, Nat.le_refl _, rfl, rfl, Lib.hid (by have := HZ.out; have h4 : k * 4 ^ m ≤ 4 * 4 ^ m := Nat.mul_le_mul hk4 (Nat.le_refl _); rw [Nat.pow_succ] at this; omega), Lib.hid rfl, HG, Below.refl _ _⟩
  case round =>
    obtain ⟨c, iz, ys, hc, rfl, hiz, HLen, HE, HGr, hB⟩ := hrel
    cases c with
    | zero =>
      obtain rfl : iz = -1 := by omega
      clear hiz
      have hE := HE.out
      rw [dnC, List.append_nil] at hE
      have HE2 := Lib.hid hE
      clear hE
      go_wp2
      dsimp only [Exit.noGoto]
      go_end0
      exact ⟨rfl, by rw [← HE2.out]; exact HGr.out, hB⟩
    | succ c =>
      obtain rfl : iz = (c : Int) := by omega
      clear hiz
      have hge : (0 : Int) ≤ (c : Int) := by omega
      obtain ⟨x, hx⟩ : ∃ x, chrB c = x := ⟨_, rfl⟩
      have HX := Lib.hid hx
      have hxs : x.size = 1 := by rw [← hx]; rfl
      have hnot : ¬ 9223372036854775807 < b.size + x.size := by omega
      have hBs := HGr.out.size
      obtain ⟨y, hy⟩ : ∃ y, b ++ x = y := ⟨_, rfl⟩
      have hys : y.size = b.size + 1 := by rw [← hy, ByteArray.size_append, hxs]
      have HY : Hid (b ++ chrB c = y) := Lib.hid (by rw [hx]; exact hy)
      have HYS := Lib.hid hys
      have hym : y.size ≤ maxLen := by unfold maxLen; omega
      clear hx hys
      go_wp2_with fail
      refine (genText_is c x _ (by omega) HX.out).mono ?_
      rintro e w1 ⟨rfl, hb1⟩
      have HG1 := Lib.hid (HGr.out.below hb1)
      have HB1 := Lib.hid (hB.trans (hb1.mono (by omega)))
      clear hb1
      cases hm : mayL y.data.toList with
      | false =>
        have hE := HE.out
        rw [dnC, HY.out, hm, if_neg Bool.false_ne_true, List.append_nil] at hE
        have HE2 := Lib.hid hE
        have HM := Lib.hid hm
        clear hE hm
        go_wp2_with fail
        refine (may_is y false _ hym HM.out).mono ?_
        rintro e w2 ⟨rfl, hb2⟩
        have HG2 := Lib.hid (HG1.out.below hb2)
        have HB2 := Lib.hid (HB1.out.trans (hb2.mono (by have := HG1.out.size; omega)))
        clear hb2
        go_wp2
        dsimp only [Exit.noGoto]
        go_end0
        exact ⟨rfl, by rw [← HE2.out]; exact HG2.out, HB2.out⟩
      | true =>
        have hE := HE.out
        rw [dnC, HY.out, hm, if_pos rfl, ← List.append_assoc] at hE
        have HE2 := Lib.hid hE
        have HM := Lib.hid hm
        clear hE hm
        go_wp2_with fail
        refine (may_is y true _ hym HM.out).mono ?_
        rintro e w2 ⟨rfl, hb2⟩
        have HG2 := Lib.hid (HG1.out.below hb2)
        have HB2 := Lib.hid (HB1.out.trans (hb2.mono (by have := HG1.out.size; omega)))
        clear hb2 hy
        have hlen := HLen.out
        rw [Nat.succ_mul] at hlen
        have hL1 : ys.length + 4 ^ m ≤ 4096 := by omega
        have HL1 := Lib.hid hL1
        have hL2 : (ys ++ growF k m y).length + c * 4 ^ m ≤ 4096 := by
          have := growF_len k hk4 m y
          rw [List.length_append]; omega
        have HL2 := Lib.hid hL2
        clear hlen hL1 hL2
        have cn := HG2.out.bn.cell
        cases m with
        | succ m =>
          have cg := HG2.out.bg.cell
          have hlt : (y.size : Int) < (n : Int) := by have := HYS.out; omega
          have HIH2 := Lib.hid (HIH.out m rfl)
          go_wp2_with fail
          refine (HIH2.out y ys _ (by have := HYS.out; omega) HL1.out HG2.out).mono ?_
          rintro e w3 ⟨rfl, hg3, hb3⟩
          have HG3 := Lib.hid hg3
          have HB3 := Lib.hid (HB2.out.trans hb3)
          clear hg3 hb3 cn cg
          go_wp2
          go_roundw
          case rel => exact ⟨c, (c : Int) - 1, ys ++ growF k (m + 1) y, by omega, by go_num, rfl, HL2, HE2, HG3, HB3.out⟩
          case measure => simp [intOf]
        | zero =>
          have hlt : ¬ (y.size : Int) < (n : Int) := by have := HYS.out; omega
          cases hl : lynL y.data.toList with
          | false =>
            have hg0 : growF k 0 y = [] := by rw [growF, hl]; rfl
            have HG0 := Lib.hid hg0
            have HL := Lib.hid hl
            have hy0 : 0 < y.size := by have := HYS.out; omega
            clear hg0 hl
            go_wp2_with fail
            refine (isLyn_L y false _ hym hy0 HL.out).mono ?_
            rintro e w3 ⟨rfl, rfl⟩
            clear cn
            go_wp2
            go_roundw
            case rel => exact ⟨c, (c : Int) - 1, ys ++ growF k 0 y, by omega, by go_num, rfl, HL2, HE2, Lib.hid (by rw [HG0.out, List.append_nil]; exact HG2.out), HB2.out⟩
            case measure => simp [intOf]
          | true =>
            have hg0 : growF k 0 y = [y] := by rw [growF, hl]; rfl
            have HG0 := Lib.hid hg0
            have HL := Lib.hid hl
            have hy0 : 0 < y.size := by have := HYS.out; omega
            obtain ⟨v, hv1, hv2⟩ := HG2.out.own
            have cf := hv1.cell
            obtain ⟨N, hN⟩ : ∃ N, ys.length = N := ⟨_, rfl⟩
            unfold OwnS at hv2
            rw [hN] at hv2
            have hN4 : N ≤ 4095 := by have := HL1.out; rw [hN] at this; simp at this; omega
            have hsz2 := HG2.out.size
            have HV1 := Lib.hid hv1
            have HOW := Lib.hid hv2
            have HN := Lib.hid hN
            clear hg0 hl hv1 hv2 hN
            go_wp2_with fail
            refine (isLyn_L y true _ hym hy0 HL.out).mono ?_
            rintro e w3 ⟨rfl, rfl⟩
            clear cn
            go_wp2_with (at_builtin; refine wpList_append_lies _ rfl _ _ _ rfl B 9 i0 _ 1 16 Try.underlying22 hi hz0 hz1 hz2 rfl (by omega) v N (strsV ys) rfl (HOW.out.alloc _) ⟨w2.heap.size, 0, none⟩ 1 1 [.string y] rfl rfl (World.news_of_block (cs := #[.string y]) (t := 9) (fr := (0, 0)) (heap_alloc_new w2 _)) (by simp [Value.oneCell']) (by omega) (by unfold maxLen; omega) (by omega) (by simp; omega) (w2.heap.size + 1) (by simp) ?_; intro gg cap1 w7 hown7 hgrow7 hat hlt7; have A1 := ((HV1.out.alloc (.cells #[.string y] 9)).kept hgrow7 (HV1.out.not_row (by decide) HOW.out)); have cf7 := A1.cell; have ff7 := A1.frozen)
            obtain ⟨_, A2, A3, _, A5⟩ := HV1.out.appended (by decide) HOW.out (by omega) (by omega) hown7 hgrow7
            have hbk := ((HG2.out.bk.alloc (.cells #[.string y] 9)).kept hgrow7 (HG2.out.bk.not_row (by decide) HOW.out)).other (B' := B + 2) (by omega) (.slice (some ⟨gg, 0, none⟩) (N + 1) cap1)
            have hbn7 := ((HG2.out.bn.alloc (.cells #[.string y] 9)).kept hgrow7 (HG2.out.bn.not_row (by decide) HOW.out)).other (B' := B + 2) (by omega) (.slice (some ⟨gg, 0, none⟩) (N + 1) cap1)
            have hbg := ((HG2.out.bg.alloc (.cells #[.string y] 9)).kept hgrow7 (HG2.out.bg.not_row (by decide) HOW.out)).other (B' := B + 2) (by omega) (.slice (some ⟨gg, 0, none⟩) (N + 1) cap1)
            have hG7 : Gro (w7.setCell ⟨B + 2, 0, none⟩ (.slice (some ⟨gg, 0, none⟩) (N + 1) cap1)) B k n (ys ++ growF k 0 y) := ⟨hbk, hbn7, hbg, ⟨_, A2, by
              unfold OwnS
              rw [HG0.out, List.length_append, HN.out, show strsV (ys ++ [y]) = strsV ys ++ [.string y] by simp [strsV]]
              exact A3⟩, Nat.le_trans hsz2 A5.size⟩
            have HG7 := Lib.hid hG7
            have HB7 := Lib.hid (HB2.out.trans A5)
            clear A1 A2 A3 A5 cf7 ff7 hbk hbn7 hbg hG7 hown7 hgrow7 hat hlt7 cf
            go_wp2
            go_roundw
            case rel => exact ⟨c, (c : Int) - 1, ys ++ growF k 0 y, by omega, by go_num, rfl, HL2, HE2, HG7, HB7.out⟩
            case measure => simp [intOf]
theorem grow_in (k n B : Nat) (hk4 : k ≤ 4) (hn : n ≤ 6) : ∀ m, GrowsTo k n B m
  | 0 => grow_step k n B hk4 hn 0 fun m' h => by omega
  | m + 1 => grow_step k n B hk4 hn (m + 1) fun m' h => by
    obtain rfl : m = m' := by omega
    exact grow_in k n B hk4 hn m

end Go.Proofs.Ytdhmicpoigoleaa

/- The contracts of the program's 'lyndonWords' and 'LyndonList'. -/

namespace Go.Proofs.Ytdhmicpoigoleaa
open Go.RowKit Go.Shelf

abbrev groW (w : World) (k n : Nat) : World := (((w.alloc (.cells #[.int .i64 k] 3)).alloc (.cells #[.int .i64 n] 3)).alloc (.cells #[.slice none 0 0] StrsT)).alloc (.cells #[groV w.heap.size] GroT)
theorem gro_new (w : World) (k n : Nat) : Gro (groW w k n) w.heap.size k n [] := by
  have s1 : (w.alloc (.cells #[.int .i64 k] 3)).heap.size = w.heap.size + 1 := by simp
  have s2 : ((w.alloc (.cells #[.int .i64 k] 3)).alloc (.cells #[.int .i64 n] 3)).heap.size = w.heap.size + 2 := by simp
  have s3 : (((w.alloc (.cells #[.int .i64 k] 3)).alloc (.cells #[.int .i64 n] 3)).alloc (.cells #[.slice none 0 0] StrsT)).heap.size = w.heap.size + 3 := by simp
  have b1 := ((((Boxed.new w 3 (.int .i64 k)).alloc (.cells #[.int .i64 n] 3)).alloc (.cells #[.slice none 0 0] StrsT)).alloc (.cells #[groV w.heap.size] GroT))
  have b2 := (((Boxed.new (w.alloc (.cells #[.int .i64 k] 3)) 3 (.int .i64 n)).alloc (.cells #[.slice none 0 0] StrsT)).alloc (.cells #[groV w.heap.size] GroT))
  have b3 := ((Boxed.new ((w.alloc (.cells #[.int .i64 k] 3)).alloc (.cells #[.int .i64 n] 3)) StrsT (.slice none 0 0)).alloc (.cells #[groV w.heap.size] GroT))
  have b4 := Boxed.new (((w.alloc (.cells #[.int .i64 k] 3)).alloc (.cells #[.int .i64 n] 3)).alloc (.cells #[.slice none 0 0] StrsT)) GroT (groV w.heap.size)
  rw [s1] at b2
  rw [s2] at b3
  rw [s3] at b4
  exact ⟨b1, b2, b4, ⟨_, b3, ownSNil _ _⟩, by simp⟩

set_option maxRecDepth 100000 in
set_option maxHeartbeats 4000000 in
theorem words_any (k n : Nat) (w : World) (hk4 : k ≤ 4) (hn1 : 1 ≤ n) (hn : n ≤ 6) :
    Calls Try.prog 55 #[.int .i64 k, .int .i64 n] w fun e w' => (∃ v, e = .returned v ∧ OwnS w.heap.size w' v (growF k n { data := #[] })) ∧ Below w.heap.size w w' := by
  have hmf : ∀ (fn : Fn) (first cap : Array Value) (w : World), (Instr.makeFunc fn first cap).run Try.prog w = .ok (.func fn first cap) w := fun _ _ _ _ => rfl
  have h3 : 4 ^ (n - 1 + 1) ≤ 4096 := Nat.le_trans (Nat.pow_le_pow_right (by omega) (by omega : n - 1 + 1 ≤ 6)) (by decide)
  have HGT := Lib.hid (grow_in k n w.heap.size hk4 hn (n - 1) { data := #[] } [] (groW w k n) (by show 0 + (n - 1) + 1 = n; omega) (by show 0 + 4 ^ (n - 1 + 1) ≤ 4096; omega) (gro_new w k n))
  have HB0 : Hid (Below w.heap.size w (groW w k n)) := Lib.hid (((((Below.refl _ w).alloc (Nat.le_refl _) _).alloc (by simp) _).alloc (by simp; omega) _).alloc (by simp; omega) _)
  clear h3
  go_enter Try.func55, Try.ntmps55
  go_wp2_with fail
  refine HGT.out.mono ?_
  rintro e w1 ⟨rfl, hG1, hb1⟩
  obtain ⟨v, hv1, hv2⟩ := hG1.own
  have cf : w1.cell? ⟨w.heap.size + 1 + 1, 0, none⟩ = some v := hv1.cell
  have HO : Hid (OwnS w.heap.size w1 v (growF k n { data := #[] })) := Lib.hid (by rw [List.nil_append, show n - 1 + 1 = n by omega] at hv2; exact hv2)
  have HB1 := Lib.hid (HB0.out.trans hb1)
  clear hv1 hv2 hG1 hb1
  go_wp2
  go_ret
  exact ⟨⟨_, rfl, HO.out⟩, HB1.out⟩

set_option maxRecDepth 100000 in
set_option maxHeartbeats 2000000 in
theorem iLyndonList_no (k n : Int) (w : World) (hb : (inR 1 4 k && inR 1 6 n) = false) :
    Calls Try.prog 25 #[.int .i64 k, .int .i64 n] w (SStrs w false []) := by
  unfold inR at hb
  simp only [Bool.and_eq_false_iff, decide_eq_false_iff_not] at hb
  by_cases h1 : k < 1
  · go_enter Try.func25, Try.ntmps25
    go_wp2
    go_ret2
    exact ⟨⟨_, rfl, ownSNil _ _⟩, Below.refl _ _⟩
  · by_cases h2 : 4 < k
    · go_enter Try.func25, Try.ntmps25
      go_wp2
      go_ret2
      exact ⟨⟨_, rfl, ownSNil _ _⟩, Below.refl _ _⟩
    · by_cases h3 : n < 1
      · go_enter Try.func25, Try.ntmps25
        go_wp2
        go_ret2
        exact ⟨⟨_, rfl, ownSNil _ _⟩, Below.refl _ _⟩
      · have h4 : 6 < n := by omega
        go_enter Try.func25, Try.ntmps25
        go_wp2
        go_ret2
        exact ⟨⟨_, rfl, ownSNil _ _⟩, Below.refl _ _⟩

set_option maxRecDepth 100000 in
set_option maxHeartbeats 2000000 in
theorem iLyndonList_yes (k n : Nat) (w : World) (hk1 : 1 ≤ k) (hk4 : k ≤ 4) (hn1 : 1 ≤ n) (hn2 : n ≤ 6) :
    Calls Try.prog 25 #[.int .i64 k, .int .i64 n] w (SStrs w true (listL k n)) := by
  have hd1 : decide ((k : Int) < 1) = false := decide_eq_false (by omega)
  have hd2 : decide ((4 : Int) < k) = false := decide_eq_false (by omega)
  have hd3 : decide ((n : Int) < 1) = false := decide_eq_false (by omega)
  have hd4 : decide ((6 : Int) < n) = false := decide_eq_false (by omega)
  go_enter Try.func25, Try.ntmps25
  go_wp2_with fail
  refine (words_any k n _ hk4 hn1 hn2).mono ?_
  rintro e w1 ⟨⟨v, rfl, hv⟩, hb1⟩
  have HV := Lib.hid hv
  have HB1 := Lib.hid hb1
  clear hv hb1
  go_wp2_with fail
  refine (reverse_any w.heap.size v _ _ HV.out (by
    have h1 := growF_len k hk4 n { data := #[] }
    have h3 : 4 ^ n ≤ 4096 := Nat.le_trans (Nat.pow_le_pow_right (by omega) hn2) (by decide)
    omega)).mono ?_
  rintro e w2 ⟨rfl, hv2, hg2⟩
  have HV2 := Lib.hid hv2
  have HB2 := Lib.hid (HB1.out.trans ((Below.refl w.heap.size w1).grown hg2 HB1.out.size (ownsRow_low HV.out)))
  clear hv2 hg2
  go_wp2
  go_ret2
  refine ⟨⟨_, rfl, ?_⟩, HB2.out⟩
  have e := growF_all k hk4 n { data := #[] }
  have h := HV2.out
  rw [e] at h
  exact h
theorem iLyndonList_is (k n : Int) (w : World) (hb : (inR 1 4 k && inR 1 6 n) = true) :
    Calls Try.prog 25 #[.int .i64 k, .int .i64 n] w (SStrs w true (listL k.toNat n.toNat)) := by
  unfold inR at hb
  simp only [Bool.and_eq_true, decide_eq_true_eq] at hb
  obtain ⟨a, rfl⟩ : ∃ a : Nat, k = a := ⟨k.toNat, by omega⟩
  obtain ⟨b, rfl⟩ : ∃ b : Nat, n = b := ⟨n.toNat, by omega⟩
  exact iLyndonList_yes a b w (by omega) (by omega) (by omega) (by omega)

end Go.Proofs.Ytdhmicpoigoleaa

/- The forms of the contracts of chapter 5 that its laws call. -/

namespace Go.Proofs.Ytdhmicpoigoleaa
open Go.RowKit

theorem below_eq {w w' : World} (h : w = w') : Below w.heap.size w w' := by subst h; exact Below.refl _ _
theorem sLyndonIn_law {s : ByteArray} {b : Bool} {w : World} (hs : s.size ≤ maxLen) (hb : lynB s = b) :
    Calls Try.prog 22 #[.string s] w fun e w' => e = .returned (.bool b) ∧ Below w.heap.size w w' :=
  (sLyndonIn_is s b w hs hb).mono fun _ _ ⟨h1, h2⟩ => ⟨h1, below_eq h2⟩
theorem iLyndonIn_law {s : ByteArray} {b : Bool} {w : World} (hs : s.size ≤ maxLen) (hb : lynB s = b) :
    Calls Try.prog 23 #[.string s] w fun e w' => e = .returned (.bool b) ∧ Below w.heap.size w w' := iLyndonIn_is s b w hs hb

theorem sLyndonTurn_law {s x : ByteArray} {b : Bool} {w : World} (hs : s.size ≤ maxLen) (hx : cond (turn12 s) (turnN s (s.size - 1)) { data := #[] } = x) (hb : turn12 s = b) :
    Calls Try.prog 36 #[.string s] w fun e w' => e = .returned (.tuple #[.string x, .bool b]) ∧ Below w.heap.size w w' := by
  rw [hb] at hx
  subst hx
  cases b with
  | false => exact sLyndonTurn_no s w hs hb
  | true => exact sLyndonTurn_yes s w hs hb
theorem sLyndonSplit_law {s x y : ByteArray} {b : Bool} {w : World} (hs : s.size ≤ maxLen) (hx : cond (split12 s) (s.extract 0 (splitI s.data.toList)) { data := #[] } = x) (hy : cond (split12 s) (s.extract (splitI s.data.toList) s.size) { data := #[] } = y) (hb : split12 s = b) :
    Calls Try.prog 30 #[.string s] w fun e w' => e = .returned (.tuple #[.string x, .string y, .bool b]) ∧ Below w.heap.size w w' := by
  rw [hb] at hx hy
  subst hx
  subst hy
  cases b with
  | false => exact (sLyndonSplit_no s w hs hb).mono fun _ _ ⟨h1, h2⟩ => ⟨h1, below_eq h2⟩
  | true => exact sLyndonSplit_yes s w hs hb
theorem sLyndonBracket_law {s x : ByteArray} {b : Bool} {w : World} (hs : s.size ≤ maxLen) (hx : (bracketO s).getD { data := #[] } = x) (hb : (bracketO s).isSome = b) :
    Calls Try.prog 34 #[.string s] w fun e w' => e = .returned (.tuple #[.string x, .bool b]) ∧ Below w.heap.size w w' := by
  subst hx
  subst hb
  exact sLyndonBracket_any s _ w hs rfl
theorem sLyndonCount_law {k n x : Int} {b : Bool} {w : World} (hx : cond (inR 1 4 k && inR 1 12 n) (countI k.toNat n.toNat) 0 = x) (hb : (inR 1 4 k && inR 1 12 n) = b) :
    Calls Try.prog 28 #[.int .i64 k, .int .i64 n] w fun e w' => e = .returned (.tuple #[.int .i64 x, .bool b]) ∧ Below w.heap.size w w' := by
  rw [hb] at hx
  subst hx
  cases b with
  | false => exact (sLyndonCount_no k n w hb).mono fun _ _ ⟨h1, h2⟩ => ⟨h1, below_eq h2⟩
  | true => exact (sLyndonCount_is k n w hb).mono fun _ _ ⟨h1, h2⟩ => ⟨h1, below_eq h2⟩
theorem sLyndonList_law {k n : Int} {zs : List ByteArray} {b : Bool} {w : World} (hz : listL k.toNat n.toNat = zs) (hb : (inR 1 4 k && inR 1 6 n) = b) :
    Calls Try.prog 24 #[.int .i64 k, .int .i64 n] w (SStrs w b zs) := by
  subst hz
  cases b with
  | false => exact (sLyndonList_no k n w hb).mono fun _ _ ⟨⟨v, h1, h2⟩, h3⟩ => ⟨⟨v, h1, h2⟩, h3⟩
  | true => exact sLyndonList_is k n w hb
theorem sLyndonFactors_law {s : ByteArray} {zs : List ByteArray} {b : Bool} {w : World} (hs : s.size ≤ maxLen) (hz : factL s = zs) (hb : text12 s = b) :
    Calls Try.prog 32 #[.string s] w (SStrs w b zs) := by
  subst hz
  exact sLyndonFactors_any s b w hs hb

theorem iLyndonTurn_law {s x : ByteArray} {b : Bool} {w : World} (hs : s.size ≤ maxLen) (hx : cond (turn12 s) (turnN s (s.size - 1)) { data := #[] } = x) (hb : turn12 s = b) :
    Calls Try.prog 37 #[.string s] w fun e w' => e = .returned (.tuple #[.string x, .bool b]) ∧ Below w.heap.size w w' := by
  rw [hb] at hx
  subst hx
  cases b with
  | false => exact iLyndonTurn_no s w hs hb
  | true => exact iLyndonTurn_yes s w hs hb
theorem iLyndonSplit_law {s x y : ByteArray} {b : Bool} {w : World} (hs : s.size ≤ maxLen) (hx : cond (split12 s) (s.extract 0 (splitI s.data.toList)) { data := #[] } = x) (hy : cond (split12 s) (s.extract (splitI s.data.toList) s.size) { data := #[] } = y) (hb : split12 s = b) :
    Calls Try.prog 31 #[.string s] w fun e w' => e = .returned (.tuple #[.string x, .string y, .bool b]) ∧ Below w.heap.size w w' := by
  rw [hb] at hx hy
  subst hx
  subst hy
  cases b with
  | false => exact iLyndonSplit_no s w hs hb
  | true => exact iLyndonSplit_yes s w hs hb
theorem iLyndonBracket_law {s x : ByteArray} {b : Bool} {w : World} (hs : s.size ≤ maxLen) (hx : (bracketO s).getD { data := #[] } = x) (hb : (bracketO s).isSome = b) :
    Calls Try.prog 35 #[.string s] w fun e w' => e = .returned (.tuple #[.string x, .bool b]) ∧ Below w.heap.size w w' := by
  subst hx
  subst hb
  exact iLyndonBracket_any s _ w hs rfl
theorem iLyndonCount_law {k n x : Int} {b : Bool} {w : World} (hx : cond (inR 1 4 k && inR 1 12 n) (countI k.toNat n.toNat) 0 = x) (hb : (inR 1 4 k && inR 1 12 n) = b) :
    Calls Try.prog 29 #[.int .i64 k, .int .i64 n] w fun e w' => e = .returned (.tuple #[.int .i64 x, .bool b]) ∧ Below w.heap.size w w' := by
  rw [hb] at hx
  subst hx
  cases b with
  | false => exact (iLyndonCount_no k n w hb).mono fun _ _ ⟨h1, h2⟩ => ⟨h1, below_eq h2⟩
  | true => exact (iLyndonCount_is k n w hb).mono fun _ _ ⟨h1, h2⟩ => ⟨h1, below_eq h2⟩
theorem iLyndonList_law {k n : Int} {zs : List ByteArray} {b : Bool} {w : World} (hz : listL k.toNat n.toNat = zs) (hb : (inR 1 4 k && inR 1 6 n) = b) :
    Calls Try.prog 25 #[.int .i64 k, .int .i64 n] w (SStrs w b zs) := by
  subst hz
  cases b with
  | false => exact (iLyndonList_no k n w hb).mono fun _ _ ⟨⟨v, h1, h2⟩, h3⟩ => ⟨⟨v, h1, h2⟩, h3⟩
  | true => exact iLyndonList_is k n w hb
theorem iLyndonFactors_law {s : ByteArray} {zs : List ByteArray} {b : Bool} {w : World} (hs : s.size ≤ maxLen) (hz : factL s = zs) (hb : text12 s = b) :
    Calls Try.prog 33 #[.string s] w (SStrs w b zs) := by
  subst hz
  exact iLyndonFactors_any s b w hs hb

theorem list_len {k n : Int} {zs us : List ByteArray} {b : Bool} (hz : listL k.toNat n.toNat = zs) (hb : (inR 1 4 k && inR 1 6 n) = b) (hus : cond b zs [] = us) : us.length ≤ 4096 := by
  subst hus
  cases b with
  | false => exact Nat.zero_le _
  | true =>
    subst hz
    unfold inR at hb
    simp only [Bool.and_eq_true, decide_eq_true_eq] at hb
    show (listL k.toNat n.toNat).length ≤ 4096
    have h1 := allF_len k.toNat (by omega) n.toNat { data := #[] }
    have h3 : 4 ^ n.toNat ≤ 4096 := Nat.le_trans (Nat.pow_le_pow_right (by omega) (by omega : n.toNat ≤ 6)) (by decide)
    unfold listL
    omega
theorem allC_small {f : ByteArray → List ByteArray} {b : ByteArray} {M : Nat} (h : ∀ d, ∀ z ∈ f (b ++ chrB d), z.size ≤ M) : ∀ c, ∀ z ∈ allC f b c, z.size ≤ M
  | 0, z, hz => by cases hz
  | c + 1, z, hz => by
    rw [allC] at hz
    rcases List.mem_append.1 hz with hz | hz
    · exact allC_small h c z hz
    · exact h c z hz
theorem allF_small (k : Nat) : ∀ (m : Nat) (b : ByteArray), ∀ z ∈ allF k m b, z.size ≤ b.size + m
  | 0, b, z, hz => by
    rw [allF] at hz
    split at hz
    · rw [List.mem_singleton.1 hz]; exact Nat.le_refl _
    · cases hz
  | m + 1, b, z, hz => by
    rw [allF] at hz
    refine allC_small (fun d z hz => ?_) k z hz
    have := allF_small k m _ z hz
    rw [ByteArray.size_append, show (chrB d).size = 1 from rfl] at this
    omega
theorem list_small {k n : Int} {zs us : List ByteArray} {b : Bool} (hz : listL k.toNat n.toNat = zs) (hb : (inR 1 4 k && inR 1 6 n) = b) (hus : cond b zs [] = us) : ∀ z ∈ us, z.size ≤ maxLen := fun z hm => by
  subst hus
  cases b with
  | false => cases hm
  | true =>
    subst hz
    unfold inR at hb
    simp only [Bool.and_eq_true, decide_eq_true_eq] at hb
    have h1 := allF_small k.toNat n.toNat { data := #[] } z hm
    rw [show ({ data := #[] } : ByteArray).size = 0 from rfl] at h1
    unfold maxLen; omega
theorem fact_len {s : ByteArray} {zs us : List ByteArray} {b : Bool} (hz : factL s = zs) (hus : cond b zs [] = us) : us.length ≤ 4096 := by
  subst hus
  cases b with
  | false => exact Nat.zero_le _
  | true =>
    subst hz
    have := factF_len 12 s
    show (factF 12 s).length ≤ 4096
    omega
theorem factF_small : ∀ (f : Nat) (s : ByteArray), ∀ z ∈ factF f s, z.size ≤ s.size
  | 0, _, z, hz => by cases hz
  | f + 1, s, z, hz => by
    rw [factF] at hz
    split at hz
    · cases hz
    · rcases List.mem_cons.1 hz with rfl | hz
      · rw [ByteArray.size_extract]; omega
      · have := factF_small f _ z hz
        rw [ByteArray.size_extract] at this
        omega
theorem fact_small {s : ByteArray} {zs us : List ByteArray} {b : Bool} (hs : s.size ≤ maxLen) (hz : factL s = zs) (hus : cond b zs [] = us) : ∀ z ∈ us, z.size ≤ maxLen := fun z hm => by
  subst hus
  cases b with
  | false => cases hm
  | true =>
    subst hz
    exact Nat.le_trans (factF_small 12 s z hm) hs

end Go.Proofs.Ytdhmicpoigoleaa

/- Texts that are owned, read as a list of texts. -/

namespace Go.Proofs.Ytdhmicpoigoleaa
open Go.RowKit Go.Shelf

theorem OwnS.at_ {base : Nat} {w : World} {a : Option Addr} {n c : Nat} {us : List ByteArray} (h : OwnS base w (.slice a n c) us) (hs : ∀ z ∈ us, z.size ≤ maxLen) : StrsAt w a us := by
  rcases h.2 with ⟨e, h0⟩ | ⟨g, cap, cur, e, h1⟩
  · refine ⟨fun h2 => ?_, hs⟩
    omega
  · have h' := h
    simp only [Value.slice.injEq] at e
    obtain ⟨rfl, rfl, rfl⟩ := e
    exact (strsAt_of_owns rfl h' hs).1
theorem OwnS.strs {base : Nat} {w : World} {v : Value} {us : List ByteArray} (h : OwnS base w v us) (hs : ∀ z ∈ us, z.size ≤ maxLen) : ∃ a c, v = .slice a us.length c ∧ StrsAt w a us := by
  rcases h.2 with ⟨rfl, h0⟩ | ⟨g, cap, cur, rfl, h1⟩
  · exact ⟨none, 0, by rw [h0], OwnS.at_ h hs⟩
  · exact ⟨_, _, rfl, OwnS.at_ h hs⟩

end Go.Proofs.Ytdhmicpoigoleaa

/- The contracts of the model's reader of drawn inputs: 'l6Open', 'pick', 'of'. -/

namespace Go.Proofs.Ytdhmicpoigoleaa
open Go.RowKit Go.Shelf

theorem i64_xor (a b : Nat) (ha : a < 2 ^ 63) (hb : b < 2 ^ 63) : bits .xor .i64 (a : Int) (b : Int) = ((a ^^^ b : Nat) : Int) := by
  show IntKind.i64.wrap ((BitVec.ofInt 64 (a : Int) ^^^ BitVec.ofInt 64 (b : Int)).toNat : Int) = _
  rw [BitVec.toNat_xor, ofInt_u64 a (by omega), ofInt_u64 b (by omega)]
  have : a ^^^ b < 2 ^ 63 := Nat.xor_lt_two_pow ha hb
  exact IntWalk.i64_in _ (by omega)

abbrev RdT : TypeId := 73
/-- A slice of bytes, as numbers, in a block below base. -/
structure BsAt (base : Nat) (w : World) (a : Option Addr) (n cap : Nat) (zs : List Int) : Prop where
  len : zs.length = n
  fit : n ≤ cap ∧ cap ≤ maxLen
  at_ : 0 < n → ∃ x, a = some x ∧ x.block < base ∧ ∀ j (h : j < zs.length), w.cell? (x.add j) = some (.int .u8 zs[j])
  byte : ∀ z ∈ zs, 0 ≤ z ∧ z ≤ 255
theorem BsAt.below {base : Nat} {w w' : World} {a : Option Addr} {n cap : Nat} {zs : List Int} (h : BsAt base w a n cap zs) (hb : Below base w w') : BsAt base w' a n cap zs :=
  ⟨h.len, h.fit, fun h0 => by obtain ⟨x, e, hx, hc⟩ := h.at_ h0; exact ⟨x, e, hx, fun j hj => (hb.cell (p := x.add j) (by show (x.add j).block < _; rw [addr_add_block]; exact hx)).trans (hc j hj)⟩, h.byte⟩
theorem bs_of {H : Type} {enc : TypeId × Value → H} {W : World} {base : Nat} {spare : Nat → Bool} {held : Bool} {fuel : Nat} {a : Option Addr} {len cap : Nat} {x : DataW H × List MemPlace}
    (h : DataW.trod enc Try.prog W base spare held fuel 39 [.slice a len cap] = some x) : ∃ zs, BsAt W.heap.size W a len cap zs := by
  rcases Go.ChangeShapes.open_ints Try.underlying39 Try.underlying5 (by kernel_rfl) h with ⟨hcs, _⟩ | ⟨y, l, c, zs, hcs, hb, hl, hm, hz, _, hx, hwf⟩
  · simp at hcs
    obtain ⟨rfl, rfl, rfl⟩ := hcs
    exact ⟨[], rfl, ⟨Nat.le_refl _, Nat.zero_le _⟩, fun h => absurd h (Nat.lt_irrefl _), fun z h => by cases h⟩
  · simp at hcs
    obtain ⟨rfl, rfl, rfl⟩ := hcs
    have hlz : len ≤ zs.length := by rw [hz]; split <;> omega
    refine ⟨zs.take len, by rw [List.length_take]; omega, ⟨hl, hm⟩, fun h0 => ⟨y, rfl, ?_, fun j hj => ?_⟩, fun z hzm => ?_⟩
    · have := World.block_lt_of_cell? _ _ (hx 0 (by omega))
      rwa [addr_add_block] at this
    · rw [List.length_take] at hj
      rw [hx j (by omega), List.getD_eq_getElem?_getD, List.getElem?_eq_getElem (by omega), List.getElem_take]; rfl
    · have h2 := hwf z (List.mem_of_mem_take hzm)
      simp only [Lit.wf, Bool.and_eq_true, decide_eq_true_eq] at h2
      have e1 : IntKind.u8.min = 0 := by decide
      have e2 : IntKind.u8.max = 255 := by decide
      omega
/-- A reader and how far it is. -/
structure Rd (base : Nat) (w : World) (rb : Nat) (a : Option Addr) (n cap : Nat) (zs : List Int) (p : Nat) : Prop where
  lo : base ≤ rb
  box : w.heap[rb]? = some (.cells #[.slice a n cap, .int .i64 p] RdT (0, 0))
  data : BsAt base w a n cap zs
  short : n ≤ 2000
theorem Rd.lt {base : Nat} {w : World} {rb : Nat} {a : Option Addr} {n cap : Nat} {zs : List Int} {p : Nat} (h : Rd base w rb a n cap zs p) : rb < w.heap.size := (Array.getElem?_eq_some_iff.1 h.box).1
theorem Rd.c0 {base : Nat} {w : World} {rb : Nat} {a : Option Addr} {n cap : Nat} {zs : List Int} {p : Nat} (h : Rd base w rb a n cap zs p) : w.cell? ⟨rb, 0, none⟩ = some (.slice a n cap) := by simp [World.cell?, h.box]
theorem Rd.c1 {base : Nat} {w : World} {rb : Nat} {a : Option Addr} {n cap : Nat} {zs : List Int} {p : Nat} (h : Rd base w rb a n cap zs p) : w.cell? ⟨rb, 1, none⟩ = some (.int .i64 p) := by simp [World.cell?, h.box]
theorem Rd.fr {base : Nat} {w : World} {rb : Nat} {a : Option Addr} {n cap : Nat} {zs : List Int} {p : Nat} (h : Rd base w rb a n cap zs p) : w.frozen? ⟨rb, 1, none⟩ = false := by simp [World.frozen?, h.box]
theorem Rd.below {base : Nat} {w w' : World} {rb : Nat} {a : Option Addr} {n cap : Nat} {zs : List Int} {p : Nat} (h : Rd base w rb a n cap zs p) (hb : Below w.heap.size w w') : Rd base w' rb a n cap zs p :=
  ⟨h.lo, (hb.block rb h.lt).trans h.box, h.data.below (hb.mono (Nat.le_of_lt (Nat.lt_of_le_of_lt h.lo h.lt))), h.short⟩
theorem Rd.set {base : Nat} {w : World} {rb : Nat} {a : Option Addr} {n cap : Nat} {zs : List Int} {p : Nat} (h : Rd base w rb a n cap zs p) (q : Nat) : Rd base (w.setCell ⟨rb, 1, none⟩ (.int .i64 q)) rb a n cap zs q := by
  refine ⟨h.lo, ?_, h.data.below ((Below.refl _ w).setCell (p := ⟨rb, 1, none⟩) h.lo _), h.short⟩
  obtain ⟨hlt, hk⟩ := Array.getElem?_eq_some_iff.1 h.box
  show (w.heap.modify rb _)[rb]? = _
  rw [Array.getElem?_eq_getElem (by rw [Array.size_modify]; exact hlt), Array.getElem_modify_self, hk]
  rfl

theorem grown_set (w : World) (a : Addr) (v : Value) : w.grownBy (w.setCell a v) (some a.block) :=
  ⟨rfl, rfl, rfl, by show _ ≤ (w.heap.modify a.block _).size; rw [Array.size_modify]; exact Nat.le_refl _, fun k hk hne => by
    show (w.heap.modify a.block _)[k]? = _
    rw [Array.getElem?_modify, if_neg (fun e => hne (by rw [e]))]⟩

set_option maxRecDepth 100000 in
set_option maxHeartbeats 4000000 in
theorem pick_any (base rb : Nat) (a : Option Addr) (n cap : Nat) (zs : List Int) (p m : Nat) (w : World) (h : Rd base w rb a n cap zs p) (hp : p ≤ 100000) (hm : 1 ≤ m) (hm2 : m ≤ 1000) :
    Calls Try.prog 63 #[.pointer (some ⟨rb, 0, none⟩), .int .i64 m] w fun e w' => (∃ z : Nat, e = .returned (.int .i64 z) ∧ z < m) ∧ Rd base w' rb a n cap zs (p + 1) ∧ Below base w w' ∧ w.grownBy w' (some rb) := by
  have hlt := h.lt
  have hc0 := h.c0
  have hc1 := h.c1
  have hfr := h.fr
  have hsh := h.short
  have hw1 : IntKind.i64.wrap ((p : Int) + 1) = (p : Int) + 1 := IntWalk.i64_in _ (by omega)
  have ep : ((p + 1 : Nat) : Int) = (p : Int) + 1 := by push_cast; rfl
  have hR := h.set (p + 1)
  rw [ep] at hR
  have hB : Below base w (w.setCell ⟨rb, 1, none⟩ (.int .i64 ((p : Int) + 1))) := (Below.refl _ w).setCell (p := ⟨rb, 1, none⟩) h.lo _
  have hG := grown_set w ⟨rb, 1, none⟩ (.int .i64 ((p : Int) + 1))
  obtain ⟨V, hV⟩ : ∃ V, w.setCell ⟨rb, 1, none⟩ (.int .i64 ((p : Int) + 1)) = V := ⟨_, rfl⟩
  have HV := Lib.hid hV
  rw [hV] at hR hB hG
  have HG := Lib.hid hG
  have hd0 := hR.c0
  have hd1 := hR.c1
  rw [ep] at hd1
  have hml : decide ((m : Int) < 1) = false := decide_eq_false (by omega)
  have hml2 : ¬ (m : Int) < 1 := by omega
  have HR := Lib.hid hR
  have HB := Lib.hid hB
  have hmz : ¬ (m : Int) = 0 := by omega
  have HD := Lib.hid hR.data
  have hw2 : IntKind.i64.wrap ((p : Int) + 1 - 1) = (p : Int) := by rw [IntWalk.i64_in _ (by omega)]; omega
  have hrem : ∀ z : Int, 0 ≤ z → ∃ r : Nat, z.tmod (m : Int) = (r : Int) ∧ r < m := fun z hz => ⟨z.toNat % m, by
    rw [Int.tmod_eq_emod_of_nonneg hz, Int.natCast_emod, Int.toNat_of_nonneg hz], Nat.mod_lt _ (by omega)⟩
  have HREM := Lib.hid hrem
  clear h hR hB hV hrem hG
  by_cases hn : n = 0
  · subst hn
    go_enter Try.func63, Try.ntmps63
    go_wp2
    go_ret
    rw [HV.out]
    exact ⟨⟨0, rfl, by omega⟩, HR.out, HB.out, HG.out⟩
  · have hn0 : ¬ (n : Int) = 0 := by omega
    have hne : ((n : Int) == 0) = false := by simpa using hn0
    obtain ⟨x, rfl, hxb, hcx⟩ := HD.out.at_ (by omega)
    have hzl := HD.out.len
    by_cases hpn : p < n
    · have hpz : p < zs.length := by omega
      obtain ⟨z, hz⟩ : ∃ z, zs[p] = z := ⟨_, rfl⟩
      have hcp := hcx p hpz
      rw [hz, ← HV.out] at hcp
      have hzb := HD.out.byte z (by rw [← hz]; exact List.getElem_mem hpz)
      obtain ⟨r, hr, hrm⟩ := HREM.out z hzb.1
      have hwz : IntKind.i64.wrap z = z := IntWalk.i64_in _ (by omega)
      have hwr : IntKind.i64.wrap (r : Int) = (r : Int) := IntWalk.i64_in _ (by omega)
      have hpi : (p : Int) < (n : Int) := by omega
      go_enter Try.func63, Try.ntmps63
      go_wp2_with fail
      go_ret
      rw [HV.out]
      exact ⟨⟨r, rfl, hrm⟩, HR.out, HB.out, HG.out⟩
    · have hpi : ¬ (p : Int) < (n : Int) := by omega
      have hn1 : 0 < n := by omega
      obtain ⟨k1, hk1⟩ : ∃ k, p % n = k := ⟨_, rfl⟩
      obtain ⟨k2, hk2⟩ : ∃ k, (p * 7 + 3) % n = k := ⟨_, rfl⟩
      obtain ⟨d, hd⟩ : ∃ d, p / n = d := ⟨_, rfl⟩
      have hk1n : k1 < n := by rw [← hk1]; exact Nat.mod_lt _ hn1
      have hk2n : k2 < n := by rw [← hk2]; exact Nat.mod_lt _ hn1
      have hdp : d ≤ p := by rw [← hd]; exact Nat.div_le_self _ _
      have ht1 : (p : Int).tmod (n : Int) = (k1 : Int) := by rw [Int.tmod_eq_emod_of_nonneg (by omega), ← hk1]; rfl
      have ht2 : ((p : Int) * 7 + 3).tmod (n : Int) = (k2 : Int) := by rw [Int.tmod_eq_emod_of_nonneg (by omega), ← hk2]; push_cast; rfl
      have ht3 : (p : Int).tdiv (n : Int) = (d : Int) := by rw [Int.tdiv_eq_ediv_of_nonneg (by omega), ← hd]; rfl
      have hz1 : k1 < zs.length := by omega
      have hz2 : k2 < zs.length := by omega
      obtain ⟨q1, hq1⟩ : ∃ z, zs[k1] = z := ⟨_, rfl⟩
      obtain ⟨q2, hq2⟩ : ∃ z, zs[k2] = z := ⟨_, rfl⟩
      have hcp1 := hcx k1 hz1
      have hcp2 := hcx k2 hz2
      rw [hq1, ← HV.out] at hcp1
      rw [hq2, ← HV.out] at hcp2
      have hb1 := HD.out.byte q1 (by rw [← hq1]; exact List.getElem_mem hz1)
      have hb2 := HD.out.byte q2 (by rw [← hq2]; exact List.getElem_mem hz2)
      have hk1i : (k1 : Int) < (n : Int) := by omega
      have hk2i : (k2 : Int) < (n : Int) := by omega
      have a1 : IntKind.i64.wrap (k1 : Int) = (k1 : Int) := IntWalk.i64_in _ (by omega)
      have a2 : IntKind.i64.wrap (k2 : Int) = (k2 : Int) := IntWalk.i64_in _ (by omega)
      have a3 : IntKind.i64.wrap (d : Int) = (d : Int) := IntWalk.i64_in _ (by omega)
      have a4 : IntKind.i64.wrap q1 = q1 := IntWalk.i64_in _ (by omega)
      have a5 : IntKind.i64.wrap q2 = q2 := IntWalk.i64_in _ (by omega)
      have a6 : IntKind.i64.wrap (q1 * 131) = q1 * 131 := IntWalk.i64_in _ (by omega)
      have a7 : IntKind.i64.wrap (q2 * 1117) = q2 * 1117 := IntWalk.i64_in _ (by omega)
      have a8 : IntKind.i64.wrap ((p : Int) * 7) = (p : Int) * 7 := IntWalk.i64_in _ (by omega)
      have a9 : IntKind.i64.wrap ((p : Int) * 7 + 3) = (p : Int) * 7 + 3 := IntWalk.i64_in _ (by omega)
      have b1 : IntKind.i64.wrap (q1 * 131 + q2 * 1117) = q1 * 131 + q2 * 1117 := IntWalk.i64_in _ (by omega)
      have b2 : IntKind.i64.wrap ((p : Int) * 29) = (p : Int) * 29 := IntWalk.i64_in _ (by omega)
      have b3 : IntKind.i64.wrap (q1 * 131 + q2 * 1117 + (p : Int) * 29) = q1 * 131 + q2 * 1117 + (p : Int) * 29 := IntWalk.i64_in _ (by omega)
      have b4 : IntKind.i64.wrap ((d : Int) * 53) = (d : Int) * 53 := IntWalk.i64_in _ (by omega)
      obtain ⟨X, hX⟩ : ∃ X : Nat, q1 * 131 + q2 * 1117 + (p : Int) * 29 + (d : Int) * 53 = (X : Int) := ⟨(q1 * 131 + q2 * 1117 + (p : Int) * 29 + (d : Int) * 53).toNat, by omega⟩
      have hXb : X ≤ 10000000 := by omega
      have b5 : IntKind.i64.wrap (X : Int) = (X : Int) := IntWalk.i64_in _ (by omega)
      have ht4 : (X : Int).tdiv 64 = ((X / 64 : Nat) : Int) := by rw [Int.tdiv_eq_ediv_of_nonneg (by omega)]; rfl
      have hY : X / 64 ≤ X := Nat.div_le_self _ _
      obtain ⟨Y, hYe⟩ : ∃ Y, X / 64 = Y := ⟨_, rfl⟩
      rw [hYe] at ht4 hY
      have b6 : IntKind.i64.wrap (Y : Int) = (Y : Int) := IntWalk.i64_in _ (by omega)
      have hxor := i64_xor X Y (by omega) (by omega)
      obtain ⟨Z, hZ⟩ : ∃ Z, X ^^^ Y = Z := ⟨_, rfl⟩
      rw [hZ] at hxor
      obtain ⟨r, hr, hrm⟩ := HREM.out (Z : Int) (by omega)
      have b7 : IntKind.i64.wrap (r : Int) = (r : Int) := IntWalk.i64_in _ (by omega)
      have HRM := Lib.hid hrm
      clear hk1 hk2 hd hq1 hq2 hb1 hb2 hdp hXb hY hYe hZ hcx hrm hzl hz1 hz2
      go_enter Try.func63, Try.ntmps63
      go_wp2
      go_quiet (fail)
      go_wp2
      go_ret
      rw [HV.out]
      exact ⟨⟨r, rfl, HRM.out⟩, ⟨HR.out.lo, HR.out.box, ⟨HR.out.data.len, HR.out.data.fit, HR.out.data.at_, HR.out.data.byte⟩, HR.out.short⟩, ⟨HB.out.os, HB.out.tape, HB.out.output, HB.out.size, HB.out.block⟩, ⟨HG.out.os, HG.out.tape, HG.out.output, HG.out.size, HG.out.block⟩⟩

set_option maxHeartbeats 1000000 in
theorem open_any (a : Option Addr) (n cap : Nat) (zs : List Int) (w : World) (h : BsAt w.heap.size w a n cap zs) :
    Calls Try.prog 62 #[.slice a n cap] w fun e w' => ∃ n' zs', e = .returned (.pointer (some ⟨w.heap.size, 0, none⟩)) ∧ Rd w.heap.size w' w.heap.size a n' cap zs' 0 ∧ Below w.heap.size w w' := by
  have hf := h.fit
  have hl := h.len
  unfold maxLen at hf
  have hB : ∀ m : Nat, Below w.heap.size w (w.alloc (.cells #[.slice a m cap, .int .i64 0] RdT)) := fun m => (Below.refl _ w).alloc (Nat.le_refl _) _
  have hRd : ∀ (m : Nat) (ys : List Int), m ≤ 2000 → BsAt w.heap.size w a m cap ys → Rd w.heap.size (w.alloc (.cells #[.slice a m cap, .int .i64 0] RdT)) w.heap.size a m cap ys 0 := fun m ys hm hd => ⟨Nat.le_refl _, World.alloc_heap_new w _, hd.below (hB m), hm⟩
  have HRD := Lib.hid hRd
  have HBD := Lib.hid hB
  have H := Lib.hid h
  clear h hRd hB
  by_cases hn : n ≤ 2000
  · have hd : decide ((2000 : Int) < (n : Int)) = false := decide_eq_false (by omega)
    go_enter Try.func62, Try.ntmps62
    go_wp2
    go_ret
    exact ⟨n, zs, rfl, HRD.out n zs hn H.out, HBD.out n⟩
  · have hd : decide ((2000 : Int) < (n : Int)) = true := decide_eq_true (by omega)
    obtain ⟨x, rfl, hxb, hc⟩ := H.out.at_ (by omega)
    have hcap : (2000 : Int) ≤ (cap : Int) := by omega
    have hcap2 : 2000 ≤ cap := by omega
    have H2 : Hid (BsAt w.heap.size w (some x) 2000 cap (zs.take 2000)) := Lib.hid ⟨by rw [List.length_take]; omega, ⟨hcap2, H.out.fit.2⟩, fun _ => ⟨x, rfl, hxb, fun j hj => by rw [List.getElem_take]; exact hc j (by rw [List.length_take] at hj; omega)⟩, fun z hz => H.out.byte z (List.mem_of_mem_take hz)⟩
    clear hc
    go_enter Try.func62, Try.ntmps62
    go_wp2
    go_ret
    exact ⟨2000, zs.take 2000, rfl, HRD.out 2000 _ (Nat.le_refl _) H2.out, HBD.out 2000⟩

end Go.Proofs.Ytdhmicpoigoleaa

/- The contracts of the model's 'of', 'l91Mono' and 'DrawSeriesShuffle'. -/

namespace Go.Proofs.Ytdhmicpoigoleaa
open Go.RowKit Go.Shelf

set_option maxHeartbeats 1000000 in
theorem of_any (base rb : Nat) (a : Option Addr) (n cap : Nat) (zs : List Int) (p g m c2 : Nat) (ss : List ByteArray) (w : World) (h : Rd base w rb a n cap zs p) (hp : p ≤ 100000) (hl : ss.length = m) (hm : 1 ≤ m) (hm2 : m ≤ 1000) (hg : g ≠ rb) (hgl : g < w.heap.size)
    (hc : ∀ i (h : i < ss.length), w.cell? ⟨g, i, none⟩ = some (.string ss[i])) :
    Calls Try.prog 80 #[.pointer (some ⟨rb, 0, none⟩), .slice (some ⟨g, 0, none⟩) m c2] w fun e w' => (∃ s ∈ ss, e = .returned (.string s)) ∧ Rd base w' rb a n cap zs (p + 1) ∧ Below base w w' := by
  have HP := Lib.hid (pick_any base rb a n cap zs p m w h hp hm hm2)
  have HC := Lib.hid hc
  clear h hc
  go_enter Try.func80, Try.ntmps80
  go_wp2_with fail
  refine HP.out.mono ?_
  rintro e w1 ⟨⟨z, rfl, hz⟩, hR, hB, hG⟩
  have hzl : z < ss.length := by omega
  have hzi : (z : Int) < (m : Int) := by omega
  obtain ⟨s, hs⟩ : ∃ s, ss[z] = s := ⟨_, rfl⟩
  have hcz : w1.cell? ⟨g, z, none⟩ = some (.string s) := by
    rw [← hs, ← HC.out z hzl]
    unfold World.cell?
    rw [hG.block g hgl (fun e => hg (by cases e; rfl))]
  have HS : Hid (s ∈ ss) := Lib.hid (by rw [← hs]; exact List.getElem_mem hzl)
  have HR := Lib.hid hR
  have HB := Lib.hid hB
  clear hs hR hB hG
  go_wp2_with fail
  go_ret
  exact ⟨⟨s, HS.out, rfl⟩, HR.out, HB.out⟩

def abL : List ByteArray := [{ data := #[97] }, { data := #[98] }]
theorem abL_size : ∀ s ∈ abL, s.size = 1 := by decide

end Go.Proofs.Ytdhmicpoigoleaa

/- The contracts of the model's draws of chapter 5. -/

namespace Go.Proofs.Ytdhmicpoigoleaa
open Go.RowKit Go.Shelf

def abcbL : List ByteArray := [{ data := #[97] }, { data := #[98] }, { data := #[99] }, { data := #[98] }]
theorem abcbL_size : ∀ s ∈ abcbL, s.size = 1 := by decide

set_option maxRecDepth 100000 in
set_option maxHeartbeats 4000000 in
theorem l91Text_any (base rb : Nat) (a : Option Addr) (n cap : Nat) (zs : List Int) (p most : Nat) (w : World) (h : Rd base w rb a n cap zs p) (hp : p ≤ 90000) (hm : most ≤ 10) :
    Calls Try.prog 64 #[.pointer (some ⟨rb, 0, none⟩), .int .i64 most] w fun e w' => (∃ s : ByteArray, e = .returned (.string s) ∧ s.size ≤ most + 1) ∧ (∃ p', p' ≤ p + 20 ∧ Rd base w' rb a n cap zs p') ∧ Below base w w' := by
  have hw1 : IntKind.i64.wrap ((most : Int) + 1) = ((most + 1 : Nat) : Int) := by rw [IntWalk.i64_in _ (by omega)]; push_cast; rfl
  have hlo := h.lo
  have hrl := h.lt
  have HP := Lib.hid (pick_any base rb a n cap zs p (most + 1) w h (by omega) (by omega) (by omega))
  clear h
  go_enter Try.func64, Try.ntmps64
  go_wp2_with fail
  refine HP.out.mono ?_
  rintro e w1 ⟨⟨N, rfl, hN⟩, hR1, hB1, _⟩
  have HR1 := Lib.hid hR1
  have HB1 := Lib.hid hB1
  clear hR1 hB1
  go_wp2_with fail
  go_loopw [5, 7] (fun v i wr => ∃ (k : Nat) (s : ByteArray), k ≤ N ∧ v = .string s ∧ i = .int .i64 k ∧ s.size ≤ k ∧ Rd base wr rb a n cap zs (p + 1 + k) ∧ Below base w wr) (fun _ i _ => N - (intOf i).toNat)
  case atStart => exact ⟨0, _, Nat.zero_le _, rfl, rfl, Nat.le_refl _, HR1.out, HB1.out⟩
  case round =>
    obtain ⟨k, s, hk, rfl, rfl, hsz, hR, hB⟩ := hrel
    have HR := Lib.hid hR
    have HB := Lib.hid hB
    have hbl := hR.lt
    clear hR hB
    by_cases hlt : k < N
    · have hli : (k : Int) < (N : Int) := by omega
      have hb2 : Below wr.heap.size wr (wr.alloc (.cells #[.string { data := #[97] }, .string { data := #[98] }, .string { data := #[99] }, .string { data := #[98] }] 9)) := (Below.refl _ wr).alloc (Nat.le_refl _) _
      have HR2 := Lib.hid (HR.out.below hb2)
      have HOF := Lib.hid (of_any base rb a n cap zs (p + 1 + k) wr.heap.size 4 4 abcbL _ HR2.out (by omega) rfl (by omega) (by omega) (by omega) (by simp) (fun i hi => by
        have h2 : i = 0 ∨ i = 1 ∨ i = 2 ∨ i = 3 := by
          have : i < 4 := hi
          omega
        rcases h2 with rfl | rfl | rfl | rfl
        · exact (World.cell?_alloc_at _ _ _ _ (by simp)).trans rfl
        · exact (World.cell?_alloc_at _ _ _ _ (by simp)).trans rfl
        · exact (World.cell?_alloc_at _ _ _ _ (by simp)).trans rfl
        · exact (World.cell?_alloc_at _ _ _ _ (by simp)).trans rfl))
      go_wp2_with fail
      refine HOF.out.mono ?_
      rintro e w5 ⟨⟨t, ht, rfl⟩, hR5, hB5⟩
      have ht1 := abcbL_size t ht
      have hnot : ¬ 9223372036854775807 < s.size + t.size := by omega
      have HR5 := Lib.hid hR5
      have HB5 := Lib.hid (HB.out.trans ((hb2.mono (by omega)).trans hB5))
      clear ht hR5 hB5
      go_wp2
      go_roundw
      case rel => exact ⟨k + 1, _, by omega, rfl, by go_num, by rw [ByteArray.size_append]; omega, HR5.out, HB5.out⟩
      case measure => simp [intOf]; omega
    · obtain rfl : k = N := by omega
      have HP2 := Lib.hid (pick_any base rb a n cap zs (p + 1 + k) 24 wr HR.out (by omega) (by omega) (by omega))
      go_wp2_with fail
      refine HP2.out.mono ?_
      rintro e w6 ⟨⟨z, rfl, hz⟩, hR6, hB6, _⟩
      have HR6 := Lib.hid hR6
      have HB6 := Lib.hid (HB.out.trans hB6)
      have hnot : ¬ 9223372036854775807 < s.size + 1 := by omega
      clear hR6 hB6
      by_cases hz0 : z = 0
      · subst hz0
        go_wp2
        go_ret
        exact ⟨⟨_, rfl, by rw [ByteArray.size_append]; show s.size + 1 ≤ _; omega⟩, ⟨_, by omega, HR6.out⟩, HB6.out⟩
      · have hzi : ((z : Int) == 0) = false := by simpa using hz0
        have hzn : ¬ (z : Int) = 0 := by omega
        go_wp2
        go_ret
        exact ⟨⟨_, rfl, by omega⟩, ⟨_, by omega, HR6.out⟩, HB6.out⟩

set_option maxHeartbeats 1000000 in
theorem drawLyndonIn_any (a : Option Addr) (n cap : Nat) (zs : List Int) (w : World) (h : BsAt w.heap.size w a n cap zs) :
    Calls Try.prog 39 #[.slice a n cap] w fun e w' => (∃ s : ByteArray, e = .returned (.string s) ∧ s.size ≤ 12) ∧ Below w.heap.size w w' := by
  have HO := Lib.hid (open_any a n cap zs w h)
  clear h
  go_enter Try.func39, Try.ntmps39
  go_wp2_with fail
  refine HO.out.mono ?_
  rintro e w1 ⟨n', zs', rfl, hR1, hB1⟩
  have HR1 := Lib.hid hR1
  have HB1 := Lib.hid hB1
  clear hR1 hB1
  go_wp2_with fail
  refine (l91Text_any w.heap.size w.heap.size a n' cap zs' 0 5 w1 HR1.out (by omega) (by omega)).mono ?_
  rintro e w2 ⟨⟨s, rfl, hs⟩, _, hB2⟩
  have HB2 := Lib.hid (HB1.out.trans hB2)
  clear hB2
  go_wp2
  go_ret
  exact ⟨⟨s, rfl, by omega⟩, HB2.out⟩

set_option maxHeartbeats 1000000 in
theorem drawLyndonFactors_any (a : Option Addr) (n cap : Nat) (zs : List Int) (w : World) (h : BsAt w.heap.size w a n cap zs) :
    Calls Try.prog 43 #[.slice a n cap] w fun e w' => (∃ s : ByteArray, e = .returned (.string s) ∧ s.size ≤ 12) ∧ Below w.heap.size w w' := by
  have HO := Lib.hid (open_any a n cap zs w h)
  clear h
  go_enter Try.func43, Try.ntmps43
  go_wp2_with fail
  refine HO.out.mono ?_
  rintro e w1 ⟨n', zs', rfl, hR1, hB1⟩
  have HR1 := Lib.hid hR1
  have HB1 := Lib.hid hB1
  clear hR1 hB1
  go_wp2_with fail
  refine (l91Text_any w.heap.size w.heap.size a n' cap zs' 0 9 w1 HR1.out (by omega) (by omega)).mono ?_
  rintro e w2 ⟨⟨s, rfl, hs⟩, _, hB2⟩
  have HB2 := Lib.hid (HB1.out.trans hB2)
  clear hB2
  go_wp2
  go_ret
  exact ⟨⟨s, rfl, by omega⟩, HB2.out⟩

set_option maxHeartbeats 1000000 in
theorem drawLyndonTurn_any (a : Option Addr) (n cap : Nat) (zs : List Int) (w : World) (h : BsAt w.heap.size w a n cap zs) :
    Calls Try.prog 44 #[.slice a n cap] w fun e w' => (∃ s : ByteArray, e = .returned (.string s) ∧ s.size ≤ 12) ∧ Below w.heap.size w w' := by
  have HO := Lib.hid (open_any a n cap zs w h)
  clear h
  go_enter Try.func44, Try.ntmps44
  go_wp2_with fail
  refine HO.out.mono ?_
  rintro e w1 ⟨n', zs', rfl, hR1, hB1⟩
  have HR1 := Lib.hid hR1
  have HB1 := Lib.hid hB1
  clear hR1 hB1
  go_wp2_with fail
  refine (l91Text_any w.heap.size w.heap.size a n' cap zs' 0 8 w1 HR1.out (by omega) (by omega)).mono ?_
  rintro e w2 ⟨⟨s, rfl, hs⟩, _, hB2⟩
  have HB2 := Lib.hid (HB1.out.trans hB2)
  clear hB2
  go_wp2
  go_ret
  exact ⟨⟨s, rfl, by omega⟩, HB2.out⟩

set_option maxRecDepth 100000 in
set_option maxHeartbeats 4000000 in
theorem l91Lyndon_any (base rb : Nat) (a : Option Addr) (n cap : Nat) (zs : List Int) (p : Nat) (w : World) (h : Rd base w rb a n cap zs p) (hp : p ≤ 90000) :
    Calls Try.prog 65 #[.pointer (some ⟨rb, 0, none⟩)] w fun e w' => (∃ s : ByteArray, e = .returned (.string s) ∧ s.size ≤ 12) ∧ Below base w w' := by
  have hlo := h.lo
  have hrl := h.lt
  have HT := Lib.hid (l91Text_any base rb a n cap zs p 7 w h hp (by omega))
  clear h
  go_enter Try.func65, Try.ntmps65
  go_wp2_with fail
  refine HT.out.mono ?_
  rintro e w1 ⟨⟨s, rfl, hs⟩, ⟨p1, _, hR1⟩, hB1⟩
  have hbl := hR1.lt
  obtain ⟨b, hb⟩ : ∃ b, text12 s = b := ⟨_, rfl⟩
  obtain ⟨us, hus⟩ : ∃ us, cond b (factL s) [] = us := ⟨_, rfl⟩
  have hsm : ∀ z ∈ us, z.size ≤ 12 := fun z hz => by
    rw [← hus] at hz
    cases b with
    | false => cases hz
    | true => have := factF_small 12 s z hz; omega
  have HSM := Lib.hid hsm
  have HB := Lib.hid hb
  have HU := Lib.hid hus
  have HB1 := Lib.hid hB1
  clear hR1 hB1 hsm hb hus
  go_wp2_with fail
  refine (sLyndonFactors_any s b _ (by unfold maxLen; omega) HB.out).mono ?_
  rintro e w2 ⟨⟨v, rfl, hv⟩, hb2⟩
  rw [HU.out] at hv
  obtain ⟨av, cv, rfl, hat⟩ := hv.strs fun z hz => by have := HSM.out z hz; unfold maxLen; omega
  have HAT := Lib.hid hat
  have HB2 := Lib.hid (HB1.out.trans (hb2.mono (by omega)))
  clear hv hat hb2
  obtain ⟨L, hL⟩ : ∃ L, us.length = L := ⟨_, rfl⟩
  rw [hL]
  cases b with
  | false =>
    go_wp2
    go_ret
    exact ⟨⟨_, rfl, by decide⟩, HB2.out⟩
  | true =>
    by_cases hL0 : L = 0
    · subst hL0
      go_wp2
      go_ret
      exact ⟨⟨_, rfl, by decide⟩, HB2.out⟩
    · have hLi : (0 : Int) < (L : Int) := by omega
      have hLn : 0 < L := by omega
      obtain ⟨x, rfl, hxb, hxc⟩ := HAT.out.cells (by omega)
      have hu0 : 0 < us.length := by omega
      obtain ⟨t, ht⟩ : ∃ t, us[0] = t := ⟨_, rfl⟩
      have hc0 := hxc 0 hu0
      rw [ht, show x.add 0 = x by unfold Addr.add; simp] at hc0
      have hts : t.size ≤ 12 := by rw [← ht]; exact HSM.out _ (List.getElem_mem hu0)
      clear ht hxc
      go_wp2
      go_ret
      exact ⟨⟨t, rfl, hts⟩, HB2.out⟩

set_option maxHeartbeats 1000000 in
theorem drawLyndonSplit_any (a : Option Addr) (n cap : Nat) (zs : List Int) (w : World) (h : BsAt w.heap.size w a n cap zs) :
    Calls Try.prog 42 #[.slice a n cap] w fun e w' => (∃ s : ByteArray, e = .returned (.string s) ∧ s.size ≤ 12) ∧ Below w.heap.size w w' := by
  have HO := Lib.hid (open_any a n cap zs w h)
  clear h
  go_enter Try.func42, Try.ntmps42
  go_wp2_with fail
  refine HO.out.mono ?_
  rintro e w1 ⟨n', zs', rfl, hR1, hB1⟩
  have HR1 := Lib.hid hR1
  have HB1 := Lib.hid hB1
  clear hR1 hB1
  go_wp2_with fail
  refine (l91Lyndon_any w.heap.size w.heap.size a n' cap zs' 0 w1 HR1.out (by omega)).mono ?_
  rintro e w2 ⟨⟨s, rfl, hs⟩, hB2⟩
  have HB2 := Lib.hid (HB1.out.trans hB2)
  clear hB2
  go_wp2
  go_ret
  exact ⟨⟨s, rfl, hs⟩, HB2.out⟩

set_option maxHeartbeats 1000000 in
theorem drawLyndonCount_any (a : Option Addr) (n cap : Nat) (zs : List Int) (w : World) (h : BsAt w.heap.size w a n cap zs) :
    Calls Try.prog 38 #[.slice a n cap] w fun e w' => (∃ k m : Nat, e = .returned (.tuple #[.int .i64 k, .int .i64 m]) ∧ 1 ≤ k ∧ k ≤ 4 ∧ m ≤ 13) ∧ Below w.heap.size w w' := by
  have HO := Lib.hid (open_any a n cap zs w h)
  clear h
  go_enter Try.func38, Try.ntmps38
  go_wp2_with fail
  refine HO.out.mono ?_
  rintro e w1 ⟨n', zs', rfl, hR1, hB1⟩
  have HR1 := Lib.hid hR1
  have HB1 := Lib.hid hB1
  clear hR1 hB1
  go_wp2_with fail
  refine (pick_any w.heap.size w.heap.size a n' cap zs' 0 4 w1 HR1.out (by omega) (by omega) (by omega)).mono ?_
  rintro e w2 ⟨⟨x, rfl, hx⟩, hR2, hB2, _⟩
  have HR2 := Lib.hid hR2
  have HB2 := Lib.hid (HB1.out.trans hB2)
  clear hR2 hB2
  go_wp2_with fail
  refine (pick_any w.heap.size w.heap.size a n' cap zs' 1 14 w2 HR2.out (by omega) (by omega) (by omega)).mono ?_
  rintro e w3 ⟨⟨y, rfl, hy⟩, hR3, hB3, _⟩
  have HB3 := Lib.hid (HB2.out.trans hB3)
  clear hR3 hB3
  go_wp2
  go_ret2
  exact ⟨⟨1 + x, y, by first | rfl | (push_cast; rfl) | (congr 3 <;> omega), by omega⟩, HB3.out⟩

set_option maxHeartbeats 1000000 in
theorem drawLyndonList_any (a : Option Addr) (n cap : Nat) (zs : List Int) (w : World) (h : BsAt w.heap.size w a n cap zs) :
    Calls Try.prog 41 #[.slice a n cap] w fun e w' => (∃ k m : Nat, e = .returned (.tuple #[.int .i64 k, .int .i64 m]) ∧ k ≤ 3 ∧ 1 ≤ m ∧ m ≤ 4) ∧ Below w.heap.size w w' := by
  have HO := Lib.hid (open_any a n cap zs w h)
  clear h
  go_enter Try.func41, Try.ntmps41
  go_wp2_with fail
  refine HO.out.mono ?_
  rintro e w1 ⟨n', zs', rfl, hR1, hB1⟩
  have HR1 := Lib.hid hR1
  have HB1 := Lib.hid hB1
  clear hR1 hB1
  go_wp2_with fail
  refine (pick_any w.heap.size w.heap.size a n' cap zs' 0 4 w1 HR1.out (by omega) (by omega) (by omega)).mono ?_
  rintro e w2 ⟨⟨x, rfl, hx⟩, hR2, hB2, _⟩
  have HR2 := Lib.hid hR2
  have HB2 := Lib.hid (HB1.out.trans hB2)
  clear hR2 hB2
  go_wp2_with fail
  refine (pick_any w.heap.size w.heap.size a n' cap zs' 1 4 w2 HR2.out (by omega) (by omega) (by omega)).mono ?_
  rintro e w3 ⟨⟨y, rfl, hy⟩, hR3, hB3, _⟩
  have HB3 := Lib.hid (HB2.out.trans hB3)
  clear hR3 hB3
  go_wp2
  go_ret2
  exact ⟨⟨x, 1 + y, by first | rfl | (push_cast; rfl) | (congr 3 <;> omega), by omega⟩, HB3.out⟩

end Go.Proofs.Ytdhmicpoigoleaa

/- What the laws of chapter 5 call of their own: sameTexts. -/

namespace Go.Proofs.Ytdhmicpoigoleaa
open Go.RowKit Go.Shelf

set_option maxRecDepth 100000 in
set_option maxHeartbeats 1000000 in
theorem sameTexts_yes (a1 a2 : Option Addr) (c1 c2 n : Nat) (zs : List ByteArray) (w : World) (hn : zs.length = n) (hm : n ≤ maxLen) (h1 : StrsAt w a1 zs) (h2 : StrsAt w a2 zs) :
    Calls Try.prog 40 #[.slice a1 n c1, .slice a2 n c2] w fun e w' => e = .returned (.bool true) ∧ Below w.heap.size w w' := by
  have H1 := Lib.hid h1
  have H2 := Lib.hid h2
  have HN := Lib.hid hn
  clear h1 h2 hn
  unfold maxLen at hm
  go_enter Try.func40, Try.ntmps40
  go_wp2
  go_loopw [5] (fun i wr => ∃ k : Nat, k ≤ n ∧ i = .int .i64 k ∧ Below w.heap.size w wr) (fun i _ => n - (intOf i).toNat)
  case atStart => exact ⟨0, Nat.zero_le _, rfl, Below.refl _ _⟩
  case round =>
    obtain ⟨k, hk, rfl, hB⟩ := hrel
    by_cases hlt : k < n
    · have hkz : k < zs.length := by rw [HN.out]; exact hlt
      obtain ⟨x1, rfl, hb1, hc1⟩ := H1.out.cells (by omega)
      obtain ⟨x2, rfl, hb2, hc2⟩ := H2.out.cells (by omega)
      obtain ⟨z, hz⟩ : ∃ z, zs[k] = z := ⟨_, rfl⟩
      have d1 : wr.cell? (x1.add k) = some (.string z) := by rw [← hz]; exact (hB.cell (p := x1.add k) (by rw [addr_add_block]; exact hb1)).trans (hc1 k hkz)
      have d2 : wr.cell? (x2.add k) = some (.string z) := by rw [← hz]; exact (hB.cell (p := x2.add k) (by rw [addr_add_block]; exact hb2)).trans (hc2 k hkz)
      clear hz hkz hc1 hc2
      go_wp2
      go_quiet (fail)
      go_wp2
      go_roundw
      case rel => exact ⟨k + 1, by omega, by go_num, below_drewN hB _⟩
      case measure => simp [intOf]; omega
    · go_wp2
      go_ret
      exact ⟨rfl, hB⟩

end Go.Proofs.Ytdhmicpoigoleaa

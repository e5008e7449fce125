/- What the laws' proofs stand on, part 1 of 3. -/
import Derived.Below
import Derived.Laws.AppendOwn
import Derived.Deep.Draws
import Derived.Laws.Strings
import Derived.Test.YtdhmicpoigoleabDoorChecked
import Derived.WalkKit
import Derived.WalkSmall
import Derived.RangeFuncBox
import Derived.Maps.AppendAt
import Derived.WalkSpells
import Derived.Deep.QuietTactic
import Derived.BigQuiet
import Derived.Lib.Hide
import Derived.Laws.BytesString
import Derived.Laws.IdiomStrings
import Derived.Outline
import Derived.Deep.SlicePairs
import Derived.Lib.Strings
import Derived.IntWalk
import Derived.Lib.Bytealg
import Derived.Lib.Small
import Derived.Sort.Grow
import Derived.Deep.RegionHeld3
import Derived.Sort.Walk0
import Derived.RangeFuncNested
import Derived.RangeFuncBound
import Derived.RangeFuncCalls
import Derived.RangeFuncLeaves
import Derived.Shelf.Abstract
import Derived.Shelf.RegionOpen
import Derived.OwnWalkIn
import Derived.TacticsInMore
import Derived.LoopNIn
import Derived.LoopIn
import Derived.Maps.RangeWalk
import Derived.Maps.OwnOps
import Derived.Sort.KeysCollected
import Derived.StillTailTactics
import Derived.Laws.EntriesVeiled
import Derived.Laws.AppendOwnNone
import Derived.StillTail

/- Plain lists of bytes: words of the free group as lists of bytes, reducing them by a stack, their inverses. Nothing of the program is imported. -/

namespace Go.Proofs.YtdhmicpoigoleabDoor

/-- The inverse of a letter, as the model has it. -/
def turnB (c : UInt8) : UInt8 := if 97 ≤ c.toNat then c - 32 else c + 32
/-- Is a byte a letter? -/
def letB (c : UInt8) : Bool := decide ((97 ≤ c.toNat ∧ c.toNat ≤ 100) ∨ (65 ≤ c.toNat ∧ c.toNat ≤ 68))
/-- One step of the stack. -/
def redStep (l : List UInt8) (c : UInt8) : List UInt8 := if l.getLast? = some (turnB c) then l.dropLast else l ++ [c]
/-- The stack. -/
def redL (l : List UInt8) (s : List UInt8) : List UInt8 := s.foldl redStep l
def letL (s : List UInt8) : Bool := s.all letB
def backL (s : List UInt8) : List UInt8 := (s.reverse).map turnB
def bytesV (l : List UInt8) : List Value := l.map fun c => Value.int .u8 (c.toNat : Int)

theorem bytesV_length (l : List UInt8) : (bytesV l).length = l.length := by simp [bytesV]
theorem bytesV_append (a b : List UInt8) : bytesV (a ++ b) = bytesV a ++ bytesV b := by simp [bytesV]

theorem redL_snoc (l s : List UInt8) (c : UInt8) : redL l (s ++ [c]) = redStep (redL l s) c := by simp [redL]
theorem redL_nil (l : List UInt8) : redL l [] = l := rfl
theorem redL_append (l a b : List UInt8) : redL l (a ++ b) = redL (redL l a) b := by simp [redL]
theorem redStep_len (l : List UInt8) (c : UInt8) : (redStep l c).length ≤ l.length + 1 := by
  unfold redStep; split <;> simp <;> omega
theorem redL_len (s : List UInt8) : ∀ l : List UInt8, (redL l s).length ≤ l.length + s.length := by
  induction s with
  | nil => intro l; simp [redL]
  | cons c s ih =>
    intro l
    have h := ih (redStep l c)
    have h2 := redStep_len l c
    show (redL (redStep l c) s).length ≤ _
    simp only [List.length_cons]
    omega
theorem letB_iff (c : UInt8) : letB c = true ↔ ((97 ≤ c.toNat ∧ c.toNat ≤ 100) ∨ (65 ≤ c.toNat ∧ c.toNat ≤ 68)) := by simp [letB]
theorem turnB_hi (c : UInt8) (h : 97 ≤ c.toNat) : ((turnB c).toNat : Int) = (c.toNat : Int) - 32 := by
  unfold turnB
  rw [if_pos h, UInt8.toNat_sub_of_le _ _ (by rw [UInt8.le_iff_toNat_le]; show 32 ≤ _; omega)]
  show ((c.toNat - 32 : Nat) : Int) = _
  omega
theorem turnB_lo (c : UInt8) (h : c.toNat < 97) : ((turnB c).toNat : Int) = (c.toNat : Int) + 32 := by
  unfold turnB
  rw [if_neg (by omega), UInt8.toNat_add]
  show (((c.toNat + 32) % 256 : Nat) : Int) = _
  omega
def wordB (l : List UInt8) : Bool := decide (l.length ≤ 60) && letL l && decide (redL [] l = l)
def bstr (l : List UInt8) : ByteArray := ⟨l.toArray⟩
theorem bstr_toList (l : List UInt8) : (bstr l).data.toList = l := rfl
theorem bstr_size (l : List UInt8) : (bstr l).size = l.length := by simp [bstr, ByteArray.size]
theorem bstr_of (s : ByteArray) : bstr s.data.toList = s := by simp [bstr]
theorem bstr_inj {a b : List UInt8} (h : bstr a = bstr b) : a = b := by
  have := congrArg (fun s : ByteArray => s.data.toList) h
  simpa [bstr] using this
theorem bytes_beq (a b : ByteArray) : (a.toList == b.toList) = decide (a.data.toList = b.data.toList) := by
  rw [ByteArray.toList_eq, ByteArray.toList_eq, Bool.eq_iff_iff]; simp
theorem bytes_ext {a b : ByteArray} (h : a.data.toList = b.data.toList) : a = b := by
  rw [← bstr_of a, ← bstr_of b, h]
theorem take_snoc (s : List UInt8) (k : Nat) (h : k < s.length) : s.take (k + 1) = s.take k ++ [s[k]] := by
  rw [List.take_succ_eq_append_getElem h]
/-- The program's own inverse of a letter, of whatever byte. -/
def invB (c : UInt8) : UInt8 := c ^^^ 32
def stepX (l : List UInt8) (c : UInt8) : List UInt8 := if l.getLast? = some (invB c) then l.dropLast else l ++ [c]
def redX (l : List UInt8) (s : List UInt8) : List UInt8 := s.foldl stepX l
theorem redX_snoc (l s : List UInt8) (c : UInt8) : redX l (s ++ [c]) = stepX (redX l s) c := by simp [redX]
theorem redX_append (l a b : List UInt8) : redX l (a ++ b) = redX (redX l a) b := by simp [redX]
theorem stepX_len (l : List UInt8) (c : UInt8) : (stepX l c).length ≤ l.length + 1 := by
  unfold stepX; split <;> simp <;> omega
theorem redX_len (s : List UInt8) : ∀ l : List UInt8, (redX l s).length ≤ l.length + s.length := by
  induction s with
  | nil => intro l; simp [redX]
  | cons c s ih =>
    intro l
    have h := ih (stepX l c)
    have h2 := stepX_len l c
    show (redX (stepX l c) s).length ≤ _
    simp only [List.length_cons]
    omega
theorem stepX_pop (p : List UInt8) (x c : UInt8) (h : x = invB c) : stepX (p ++ [x]) c = p := by simp [stepX, h]
theorem inv_tab : ∀ n : Fin 256, letB (UInt8.ofNat n.val) = true → invB (UInt8.ofNat n.val) = turnB (UInt8.ofNat n.val) := by decide +kernel
theorem invB_let (c : UInt8) (h : letB c = true) : invB c = turnB c := by
  have := inv_tab ⟨c.toNat, c.toNat_lt⟩
  simp only [UInt8.ofNat_toNat] at this
  exact this h
theorem letL_cons (c : UInt8) (s : List UInt8) : letL (c :: s) = (letB c && letL s) := rfl
theorem letL_append (a b : List UInt8) : letL (a ++ b) = (letL a && letL b) := by simp [letL]
theorem redX_eq : ∀ (s l : List UInt8), letL s = true → redX l s = redL l s
  | [], _, _ => rfl
  | c :: s, l, h => by
    rw [letL_cons, Bool.and_eq_true] at h
    have e : stepX l c = redStep l c := by unfold stepX redStep; rw [invB_let c h.1]
    show redX (stepX l c) s = redL (redStep l c) s
    rw [e]; exact redX_eq s _ h.2
theorem letL_prefix {a b : List UInt8} (h : a <+: b) (ha : letL a = false) : letL b = false := by
  obtain ⟨t, rfl⟩ := h
  rw [letL_append, ha]; rfl
theorem ret_int {k : IntKind} {a b : Int} (h : a = b) : Ending.returned (.int k a) = .returned (.int k b) := by rw [h]
theorem ret_bool {a b : Bool} (h : a = b) : Ending.returned (.bool a) = .returned (.bool b) := by rw [h]
theorem ret_string {a b : ByteArray} (h : a = b) : Ending.returned (.string a) = .returned (.string b) := by rw [h]
theorem letL_take_succ (s : List UInt8) (k : Nat) (hk : k < s.length) : letL (s.take (k + 1)) = (letL (s.take k) && letB s[k]) := by
  unfold letL; rw [List.take_succ_eq_append_getElem hk, List.all_append]; simp
theorem letL_false_of (s : List UInt8) (k : Nat) (hk : k < s.length) (h : letB s[k] = false) : letL s = false := by
  unfold letL; rw [List.all_eq_false]; exact ⟨s[k], List.getElem_mem hk, by simp [h]⟩
theorem last_split (l : List UInt8) (h : 0 < l.length) : ∃ p x, l = p ++ [x] := by
  have hne : l ≠ [] := by intro e; subst e; simp at h
  exact ⟨l.dropLast, l.getLast hne, (List.dropLast_concat_getLast hne).symm⟩
theorem ownsRow_cap {w : World} {base : Nat} {e : TypeId} {size g cap n : Nat} {xs : List Value} (h : w.ownsRow base e size (.slice (some ⟨g, 0, none⟩) n cap) n xs) : n ≤ cap ∧ cap ≤ maxLen ∧ base ≤ g ∧ g < w.heap.size := by
  have hl := h.lt g rfl
  obtain ⟨_, h2 | ⟨g', cap', cur, hv, hg, hh, hn, hc, hs, ht⟩⟩ := h
  · cases h2.1
  · cases hv; exact ⟨hn, hc, hl.1, hl.2⟩
theorem ownsRow_drewN {w : World} {base : Nat} {e : TypeId} {size : Nat} {v : Value} {n : Nat} {xs : List Value} (h : w.ownsRow base e size v n xs) (q : Nat) : (w.drewN q).ownsRow base e size v n xs := h
theorem ownsRow_base {w : World} {b1 b2 : Nat} {e : TypeId} {size : Nat} {v : Value} {n : Nat} {xs : List Value} (h : w.ownsRow b1 e size v n xs) (hb : b2 ≤ b1) : w.ownsRow b2 e size v n xs := by
  obtain ⟨h1, h2 | ⟨g, cap, cur, a, b, c⟩⟩ := h
  · exact ⟨h1, .inl h2⟩
  · exact ⟨h1, .inr ⟨g, cap, cur, a, Nat.le_trans hb b, c⟩⟩
theorem bytesV_set (l : List UInt8) (k : Nat) (c : UInt8) : (bytesV l).set k (.int .u8 (c.toNat : Int)) = bytesV (l.set k c) := by
  simp [bytesV, List.map_set]
theorem fill_set (l : List UInt8) (n k : Nat) (hl : l.length = n) (hk : k < n) : (l.take k ++ List.replicate (n - k) 0).set k (l[k]'(by omega)) = l.take (k + 1) ++ List.replicate (n - (k + 1)) 0 := by
  have h1 : (l.take k).length = k := by simp; omega
  rw [List.set_append_right _ _ (by omega), h1, Nat.sub_self, take_snoc l k (by omega)]
  obtain ⟨m, hm⟩ : ∃ m, n - k = m + 1 := ⟨n - k - 1, by omega⟩
  rw [hm, List.replicate_succ, show n - (k + 1) = m by omega]
  simp only [List.set_cons_zero, List.append_assoc, List.singleton_append]
theorem redL_full : ∀ (s l : List UInt8), (redL l s).length = l.length + s.length → redL l s = l ++ s
  | [], l, _ => by simp [redL]
  | c :: s, l, h => by
    have h0 : redL l (c :: s) = redL (redStep l c) s := rfl
    rw [h0] at h ⊢
    have h1 := redL_len s (redStep l c)
    have h2 : (redStep l c).length = l.length + 1 := by
      have := redStep_len l c
      simp only [List.length_cons] at h
      omega
    have h3 : redStep l c = l ++ [c] := by
      unfold redStep at h2 ⊢
      split at h2
      · simp at h2
      · rename_i hx; rw [if_neg hx]
    rw [h3] at h ⊢
    rw [redL_full s _ (by simp only [List.length_cons, List.length_append, List.length_nil] at h ⊢; omega)]
    simp
theorem wordB_iff (l : List UInt8) : wordB l = true ↔ l.length ≤ 60 ∧ letL l = true ∧ redL [] l = l := by
  simp [wordB, and_assoc]
theorem backL_drop (s : List UInt8) (k : Nat) (h : k < s.length) : backL (s.drop k) = backL (s.drop (k + 1)) ++ [turnB s[k]] := by
  unfold backL
  rw [List.drop_eq_getElem_cons h, List.reverse_cons, List.map_append]
  rfl
theorem backL_length (s : List UInt8) : (backL s).length = s.length := by simp [backL]
/-- Both ends are taken out as long as they are inverse to each other. -/
def coreC (l : List UInt8) : Bool := decide (1 < l.length) && decide (l.head? = some (turnB (l.getLast?.getD 0)))
def coreF : Nat → List UInt8 → List UInt8
  | 0, l => l
  | n + 1, l => if coreC l then coreF n (l.tail.dropLast) else l
def coreL (l : List UInt8) : List UInt8 := coreF l.length l
theorem coreF_false {l : List UInt8} (h : coreC l = false) : ∀ m, coreF m l = l
  | 0 => rfl
  | m + 1 => by rw [coreF, h]; rfl
theorem coreF_true {l : List UInt8} (h : coreC l = true) (m : Nat) : coreF (m + 1) l = coreF m (l.tail.dropLast) := by rw [coreF, h]; rfl
theorem coreC_get (l : List UInt8) (h : 1 < l.length) : coreC l = decide (l[0] = turnB (l[l.length - 1])) := by
  unfold coreC
  rw [List.getLast?_eq_getElem?, List.getElem?_eq_getElem (by omega), List.head?_eq_getElem?, List.getElem?_eq_getElem (by omega)]
  simp [h]
theorem letL_get (l : List UInt8) (h : letL l = true) (i : Nat) (hi : i < l.length) : letB l[i] = true := List.all_eq_true.1 h _ (List.getElem_mem hi)
theorem letL_of_mem (l m : List UInt8) (h : letL l = true) (hm : ∀ c ∈ m, c ∈ l) : letL m = true := List.all_eq_true.2 fun c hc => List.all_eq_true.1 h c (hm c hc)
theorem letL_core (l : List UInt8) (h : letL l = true) : letL (l.tail.dropLast) = true := letL_of_mem l _ h fun _ hc => List.mem_of_mem_tail (List.dropLast_subset _ hc)
theorem core_len (l : List UInt8) : (l.tail.dropLast).length = l.length - 2 := by simp; omega
theorem core_get (l : List UInt8) (j : Nat) (h : j < (l.tail.dropLast).length) : (l.tail.dropLast)[j] = l[j + 1]'(by simp at h; omega) := by
  simp
theorem coreF_len : ∀ (m : Nat) (l : List UInt8), (coreF m l).length ≤ l.length
  | 0, _ => Nat.le_refl _
  | m + 1, l => by
    rw [coreF]; split
    · have := coreF_len m (l.tail.dropLast); rw [core_len] at this; omega
    · exact Nat.le_refl _
theorem redStep_pop (p : List UInt8) (x c : UInt8) (h : x = turnB c) : redStep (p ++ [x]) c = p := by simp [redStep, h]
theorem redStep_push (p : List UInt8) (x c : UInt8) (h : x ≠ turnB c) : redStep (p ++ [x]) c = p ++ [x] ++ [c] := by simp [redStep, h]
theorem redStep_nil (c : UInt8) : redStep [] c = [c] := by simp [redStep]

end Go.Proofs.YtdhmicpoigoleabDoor

/- The contracts of the model's small functions on letters and words. -/

namespace Go.Proofs.YtdhmicpoigoleabDoor
open Go.RowKit

theorem turned_any (c : UInt8) (w : World) :
    Calls Tryd.prog 55 #[.int .u8 (c.toNat : Int)] w fun e w' => e = .returned (.int .u8 ((turnB c).toNat : Int)) ∧ w = w' := by
  have hc := c.toNat_lt
  by_cases h : 97 ≤ c.toNat
  · have H := Lib.hid (turnB_hi c h)
    go_enter Tryd.func55, Tryd.ntmps55
    go_wp2
    go_ret
    exact ⟨ret_int H.out.symm, rfl⟩
  · have H := Lib.hid (turnB_lo c (by omega))
    go_enter Tryd.func55, Tryd.ntmps55
    go_wp2
    go_ret
    exact ⟨ret_int H.out.symm, rfl⟩

theorem letter_any (c : UInt8) (w : World) :
    Calls Tryd.prog 71 #[.int .u8 (c.toNat : Int)] w fun e w' => e = .returned (.bool (letB c)) ∧ w = w' := by
  have hc := c.toNat_lt
  have H := Lib.hid (letB_iff c)
  rcases (show c.toNat < 65 ∨ (65 ≤ c.toNat ∧ c.toNat ≤ 68) ∨ (68 < c.toNat ∧ c.toNat < 97) ∨ (97 ≤ c.toNat ∧ c.toNat ≤ 100) ∨ 100 < c.toNat from by omega) with h | h | h | h | h
  all_goals
    first | obtain ⟨h1, h2⟩ := h | have h1 := h
    go_enter Tryd.func71, Tryd.ntmps71
    go_wp2
    go_ret
    refine ⟨ret_bool ?_, rfl⟩
    rw [Bool.eq_iff_iff, H.out]
    simp
    try omega

theorem letter_yes (c : UInt8) (w : World) (h : letB c = true) :
    Calls Tryd.prog 71 #[.int .u8 (c.toNat : Int)] w fun e w' => e = .returned (.bool true) ∧ w = w' := by
  rw [← h]; exact letter_any c w
theorem letter_no (c : UInt8) (w : World) (h : letB c = false) :
    Calls Tryd.prog 71 #[.int .u8 (c.toNat : Int)] w fun e w' => e = .returned (.bool false) ∧ w = w' := by
  rw [← h]; exact letter_any c w

theorem letters_any (s : ByteArray) (w : World) (hs : s.size ≤ maxLen) :
    Calls Tryd.prog 52 #[.string s] w fun e w' => e = .returned (.bool (letL s.data.toList)) ∧ w = w' := by
  unfold maxLen at hs
  go_enter Tryd.func52, Tryd.ntmps52
  go_wp2
  go_loop [3] (fun i => ∃ k : Nat, k ≤ s.size ∧ i = .int .i64 k ∧ Hid (letL (s.data.toList.take k) = true)) (fun i => s.size - (intOf i).toNat)
  case atStart => exact ⟨0, Nat.zero_le _, rfl, Lib.hid rfl⟩
  case round =>
    obtain ⟨k, hk, rfl, HL⟩ := hrel
    by_cases hlt : k < s.size
    · have hl : k < s.data.toList.length := by simpa using hlt
      cases hb : letB s[k] with
      | true =>
        have HB := Lib.hid hb
        clear hb
        go_wp2_with (go_at_call 71; refine (letter_yes _ _ HB.out).mono ?_; rintro e w' ⟨rfl, rfl⟩)
        go_round
        case rel => exact ⟨k + 1, by omega, by go_num, Lib.hid (by rw [letL_take_succ _ _ hl, HL.out]; exact HB.out)⟩
        case measure => simp [intOf]; omega
      | false =>
        have HB := Lib.hid hb
        clear hb
        go_wp2_with (go_at_call 71; refine (letter_no _ _ HB.out).mono ?_; rintro e w' ⟨rfl, rfl⟩)
        go_ret
        exact ⟨ret_bool (letL_false_of _ k hl HB.out).symm, rfl⟩
    · go_wp2
      go_ret
      exact ⟨ret_bool (by rw [← HL.out, List.take_of_length_le (by simp; omega)]), rfl⟩

theorem infoU8 : (Tryd.prog.info? 5).map (fun i => (i.zero, i.size, i.bytes)) = some (some (.int .u8 0), 1, 1) := by kernel_rfl

theorem turned_q (c : UInt8) (w : World) :
    Calls Tryd.prog 55 #[.int .u8 (c.toNat : Int)] w fun e w' => e = .returned (.int .u8 ((turnB c).toNat : Int)) ∧ w' = w :=
  (turned_any c w).mono fun _ _ ⟨he, hw⟩ => ⟨he, hw.symm⟩

set_option maxRecDepth 100000 in
set_option maxHeartbeats 1000000 in
theorem reduce_any (s : ByteArray) (w : World) (hs : s.size ≤ 1048576) :
    Calls Tryd.prog 40 #[.string s] w fun e w' => e = .returned (.string (bstr (redL [] s.data.toList))) ∧ Below w.heap.size w w' := by
  obtain ⟨i0, hi, hz0, hz1, hz2⟩ := info_parts infoU8
  go_enter Tryd.func40, Tryd.ntmps40
  go_wp2
  go_loopw [3, 4] (fun v i wr => ∃ (k n g cap : Nat) (l : List UInt8), k ≤ s.size ∧ i = .int .i64 k ∧ v = .slice (some ⟨g, 0, none⟩) n cap ∧ n ≤ k ∧ Hid (l = redL [] (s.data.toList.take k) ∧ l.length = n) ∧ wr.ownsRow w.heap.size 5 1 (.slice (some ⟨g, 0, none⟩) n cap) n (bytesV l) ∧ Below w.heap.size w wr)
    (fun _ i _ => s.size - (intOf i).toNat)
  case atStart => exact ⟨0, 0, w.heap.size, 0, [], Nat.zero_le _, rfl, rfl, Nat.le_refl _, Lib.hid ⟨rfl, rfl⟩, World.ownsRow_made w #[] 0 (Nat.le_refl _) (Nat.zero_le _) rfl, (Below.refl _ _).alloc (Nat.le_refl _) _⟩
  case round =>
    obtain ⟨k, n, g, cap, l, hk, rfl, rfl, hnk, HL, hown, hB⟩ := hrel
    obtain ⟨hnc, hcm, hbg, hgs⟩ := ownsRow_cap hown
    unfold maxLen at hcm
    by_cases hlt : k < s.size
    · have hl : k < s.data.toList.length := by simpa using hlt
      have HR : Hid (redL [] (s.data.toList.take (k + 1)) = redStep l s[k]) := by
        rw [take_snoc _ k hl, redL_snoc, HL.out.1]; rfl
      by_cases hn : 0 < n
      · -- there is a last letter
        obtain ⟨p, x, hp⟩ : ∃ p x, l = p ++ [x] := last_split l (by rw [HL.out.2]; exact hn)
        have hpl : p.length + 1 = n := by rw [← HL.out.2, hp]; simp
        have hcx : wr.cell? ⟨g, n - 1, none⟩ = some (.int .u8 (x.toNat : Int)) := by
          have := hown.cells rfl (n - 1) (.int .u8 (x.toNat : Int)) (by
            rw [hp]
            simp [bytesV]
            rw [show n - 1 = p.length by omega]; simp)
          rw [show (⟨g, n - 1, none⟩ : Addr) = (⟨g, 0, none⟩ : Addr).add (n - 1) by simp [Addr.add]]
          exact this
        by_cases hx : x = turnB s[k]
        · have ht : ((x.toNat : Int) == ((turnB s[k]).toNat : Int)) = true := by rw [hx]; simp
          have HX := Lib.hid hx
          have HP := Lib.hid hp
          have HN := Lib.hid hpl
          clear hp hx hpl
          go_wp2
          go_quiet ((go_at_call 55; exact Calls.quiet_of_same (turned_q _ _)))
          go_wp2
          go_roundw
          case rel =>
            have hpop : wr.ownsRow w.heap.size 5 1 (.slice (some ⟨g, 0, none⟩) (n - 1) cap) (n - 1) (bytesV p) := by
              obtain rfl := HN.out
              have h2 := hown
              rw [HP.out, bytesV_append] at h2
              exact ownsRow_pop (by simp [bytesV_length]) h2
            exact ⟨k + 1, n - 1, g, cap, p, by omega, by go_num, by simp, by omega, Lib.hid ⟨by rw [HR.out, HP.out, redStep_pop _ _ _ HX.out], by have := HN.out; omega⟩, ownsRow_drewN hpop _, below_drewN hB _⟩
          case measure => simp [intOf]; omega
        · have ht : ((x.toNat : Int) == ((turnB s[k]).toNat : Int)) = false := by
            rw [beq_eq_false_iff_ne]
            intro e
            exact hx (UInt8.toNat_inj.1 (by omega))
          have HX := Lib.hid hx
          have HP := Lib.hid hp
          have HN := Lib.hid hpl
          clear hp hx hpl
          go_wp2
          go_quiet ((go_at_call 55; exact Calls.quiet_of_same (turned_q _ _)))
          go_wp2_with (at_builtin; refine wpList_append_own _ rfl _ _ 22 rfl w.heap.size 5 i0 (.int .u8 0) 1 1 Tryd.underlying22 hi hz0 hz1 hz2 rfl (by decide) _ _ _ rfl ((ownsRow_drewN hown _).alloc _) ⟨wr.heap.size, 0, none⟩ 1 1 [.int .u8 (s[k].toNat : Int)] rfl rfl (cell_one_new _ _ _) (fun u hu => by simp at hu; subst hu; rfl) (by unfold maxLen; omega) (by omega) (by have := hB.size; simp; omega) ?_)
          intro v' w2 hown' hgrow' _
          obtain ⟨g', cap', rfl⟩ := ownsRow_succ hown'
          go_wp2
          go_roundw
          case rel => 
            exact ⟨k + 1, n + 1, g', cap', l ++ [s[k]], by omega, by go_num, rfl, by omega, Lib.hid ⟨by rw [HR.out, HP.out, redStep_push _ _ _ HX.out], by rw [List.length_append, HL.out.2]; rfl⟩, by rw [bytesV_append]; exact hown', ((below_drewN hB _).alloc (by simp; omega) _).grown hgrow' (by have := hB.size; simp; omega) (fun j hj => by cases hj; exact hbg)⟩
          case measure => simp [intOf]; omega
      · obtain rfl : n = 0 := by omega
        have HN : Hid (l = []) := List.length_eq_zero_iff.1 HL.out.2
        go_wp2
        go_quiet (fail)
        go_wp2_with (at_builtin; refine wpList_append_own _ rfl _ _ 22 rfl w.heap.size 5 i0 (.int .u8 0) 1 1 Tryd.underlying22 hi hz0 hz1 hz2 rfl (by decide) _ _ _ rfl ((ownsRow_drewN hown _).alloc _) ⟨wr.heap.size, 0, none⟩ 1 1 [.int .u8 (s[k].toNat : Int)] rfl rfl (cell_one_new _ _ _) (fun u hu => by simp at hu; subst hu; rfl) (by unfold maxLen; omega) (by omega) (by have := hB.size; simp; omega) ?_)
        intro v' w2 hown' hgrow' _
        obtain ⟨g', cap', rfl⟩ := ownsRow_succ hown'
        go_wp2
        go_roundw
        case rel =>
          exact ⟨k + 1, 1, g', cap', l ++ [s[k]], by omega, by go_num, rfl, by omega, Lib.hid ⟨by rw [HR.out, HN.out, redStep_nil]; rfl, by rw [List.length_append, HL.out.2]; rfl⟩, by rw [bytesV_append]; exact hown', ((below_drewN hB _).alloc (by simp; omega) _).grown hgrow' (by have := hB.size; simp; omega) (fun j hj => by cases hj; exact hbg)⟩
        case measure => simp [intOf]; omega
    · have hconv := run_convert_bytes_back (P := Tryd.prog) wr 22 9 5 ⟨g, 0, none⟩ cap l Tryd.underlying22 Tryd.underlying5 Tryd.underlying9 (fun j hj => hown.cells rfl j _ (by simp [bytesV, hj]))
      rw [HL.out.2] at hconv
      go_wp2
      go_ret
      exact ⟨ret_string (show bstr l = bstr (redL [] s.data.toList) by rw [HL.out.1, List.take_of_length_le (by simp; omega)]), hB⟩

end Go.Proofs.YtdhmicpoigoleabDoor

/- The contracts of the laws' own helpers on slices of strings: the size they take, a copy of them, are two equal. -/

namespace Go.Proofs.YtdhmicpoigoleabDoor
open Go.RowKit

def strsV (zs : List ByteArray) : List Value := zs.map Value.string
theorem strsV_len (zs : List ByteArray) : (strsV zs).length = zs.length := by simp [strsV]
theorem infoStr : (Tryd.prog.info? 9).map (fun i => (i.zero, i.size, i.bytes)) = some (some (.string ByteArray.empty), 1, 16) := by kernel_rfl

theorem addr_add_block (x : Addr) (i : Nat) : (x.add i).block = x.block := by
  obtain ⟨b, off, sb⟩ := x
  unfold Addr.add
  split <;> rfl

/-- A slice at a whose first cells are the strings zs. -/
structure StrsAt (w : World) (a : Option Addr) (zs : List ByteArray) : Prop where
  cells : 0 < zs.length → ∃ x : Addr, a = some x ∧ x.block < w.heap.size ∧ ∀ i (h : i < zs.length), w.cell? (x.add i) = some (.string zs[i])
  small : ∀ s ∈ zs, s.size ≤ maxLen
theorem StrsAt.below {w w' : World} {a : Option Addr} {zs : List ByteArray} (h : StrsAt w a zs) (hb : Below w.heap.size w w') : StrsAt w' a zs :=
  ⟨fun h0 => by
    obtain ⟨x, e, h1, h2⟩ := h.cells h0
    exact ⟨x, e, Nat.lt_of_lt_of_le h1 hb.size, fun i hi => (hb.cell (p := x.add i) (by rw [addr_add_block]; exact h1)).trans (h2 i hi)⟩, h.small⟩

theorem fillS_set (zs : List ByteArray) (n k : Nat) (hl : zs.length = n) (hk : k < n) :
    (strsV (zs.take k ++ List.replicate (n - k) ByteArray.empty)).set k (.string (zs[k]'(by omega))) = strsV (zs.take (k + 1) ++ List.replicate (n - (k + 1)) ByteArray.empty) := by
  unfold strsV
  rw [List.map_append, List.set_append_right _ _ (by simp; omega), List.length_map, List.length_take, Nat.min_eq_left (by omega), Nat.sub_self, List.take_succ_eq_append_getElem (by omega : k < zs.length), show n - k = (n - (k + 1)) + 1 by omega, List.replicate_succ, List.map_cons, List.set_cons_zero, List.map_append, List.map_append, List.append_assoc]
  rfl

end Go.Proofs.YtdhmicpoigoleabDoor

/- A slice of strings that came in, and its copy. -/

namespace Go.Proofs.YtdhmicpoigoleabDoor
open Go.RowKit

/-- The slice at a of n cells holds the strings zs. -/
structure IsStrs (w : World) (a : Option Addr) (n : Nat) (zs : List ByteArray) : Prop where
  len : zs.length = n
  max : n ≤ maxLen
  at_ : StrsAt w a zs
theorem strsAt_new (w : World) (a : Option Addr) (len : Nat) (ss : List ByteArray) (x : Addr) (ha : a = some x) (hl : len ≤ ss.length) (hc : ∀ i, i < ss.length → w.cell? (x.add i) = some (.string (ss.getD i ByteArray.empty))) (hm : ∀ s ∈ ss, s.size ≤ maxLen) : StrsAt w a (ss.take len) :=
  ⟨fun h0 => ⟨x, ha, by
      have := hc 0 (by simp at h0; omega)
      have h := World.block_lt_of_cell? _ _ this
      rw [addr_add_block] at h
      exact h, fun i hi => by
      simp only [List.length_take] at hi
      have := hc i (by omega)
      rw [List.getElem_take]
      rw [List.getD_eq_getElem?_getD, List.getElem?_eq_getElem (by omega)] at this
      exact this⟩, fun s hs => hm s (List.mem_of_mem_take hs)⟩

theorem strsAt_of_owns {w : World} {base g cap n : Nat} {e : TypeId} {zs : List ByteArray} (hn : zs.length = n) (h : w.ownsRow base e 1 (.slice (some ⟨g, 0, none⟩) n cap) n (strsV zs)) (hm : ∀ s ∈ zs, s.size ≤ maxLen) :
    StrsAt w (some ⟨g, 0, none⟩) zs ∧ g < w.heap.size ∧ ∀ i (h : i < zs.length), w.cell? ⟨g, i, none⟩ = some (.string zs[i]) := by
  have hg : g < w.heap.size := by
    rcases h.2 with ⟨h, _⟩ | ⟨g1, cap1, cur, h1, _, hgb, _⟩
    · cases h
    · cases h1; exact (Array.getElem?_eq_some_iff.1 hgb).1
  have hc : ∀ i (h : i < zs.length), w.cell? ⟨g, i, none⟩ = some (.string zs[i]) := fun i hi => by
    rw [h.cellAt i (by omega)]
    simp [strsV, hi]
  refine ⟨⟨fun _ => ⟨_, rfl, hg, fun i hi => ?_⟩, hm⟩, hg, hc⟩
  have e1 : (⟨g, 0, none⟩ : Addr).add i = ⟨g, i, none⟩ := by unfold Addr.add; split <;> simp_all
  rw [e1]; exact hc i hi

end Go.Proofs.YtdhmicpoigoleabDoor

/- Terms in memory; a class of worlds for regions that draw their order and whose callees make memory; the contracts of the laws' own helpers on terms. -/

namespace Go.Proofs.YtdhmicpoigoleabDoor
open Go.RowKit

/-- A term. -/
structure Tm where
  c : Int
  s : ByteArray
  deriving Inhabited
def termV (t : Tm) : Value := .agg #[.int .i64 t.c, .string t.s]
def termsV (ts : List Tm) : List Value := (ts.map fun t => [Value.int .i64 t.c, Value.string t.s]).flatten
theorem termsV_len (ts : List Tm) : (termsV ts).length = ts.length * 2 := by
  induction ts with
  | nil => rfl
  | cons t r ih => unfold termsV at *; simp only [List.map_cons, List.flatten_cons, List.length_append, ih, List.length_cons, List.length_nil]; omega
theorem termsV_cons (t : Tm) (r : List Tm) : termsV (t :: r) = .int .i64 t.c :: .string t.s :: termsV r := rfl
theorem termsV_append (a b : List Tm) : termsV (a ++ b) = termsV a ++ termsV b := by simp [termsV]
theorem termsV_get (ts : List Tm) : ∀ (i : Nat) (h : i < ts.length), (termsV ts)[i * 2]? = some (.int .i64 ts[i].c) ∧ (termsV ts)[i * 2 + 1]? = some (.string ts[i].s) := by
  induction ts with
  | nil => intro i h; simp at h
  | cons t r ih =>
    intro i h
    cases i with
    | zero => exact ⟨rfl, rfl⟩
    | succ i =>
      obtain ⟨h1, h2⟩ := ih i (by simpa using h)
      rw [termsV_cons, show (i + 1) * 2 = i * 2 + 1 + 1 by omega, show i * 2 + 1 + 1 + 1 = (i * 2 + 1) + 1 + 1 by omega]
      exact ⟨h1, h2⟩

theorem addr_next (x : Addr) (i : Nat) : x.add (i * 2 + 1) = ⟨(x.add (i * 2)).block, (x.add (i * 2)).off + 1, none⟩ := by
  rw [← Go.Deep.add_add]
  unfold Addr.add
  simp
/-- Terms from the address x on. -/
def TermsAt (w : World) (x : Addr) (ts : List Tm) : Prop :=
  x.block < w.heap.size ∧ ∀ i (h : i < ts.length), w.cell? (x.add (i * 2)) = some (.int .i64 ts[i].c) ∧ w.cell? (x.add (i * 2 + 1)) = some (.string ts[i].s)
theorem TermsAt.below {w w' : World} {x : Addr} {ts : List Tm} (h : TermsAt w x ts) (hb : Below w.heap.size w w') : TermsAt w' x ts :=
  ⟨Nat.lt_of_lt_of_le h.1 hb.size, fun i hi => by
    obtain ⟨h1, h2⟩ := h.2 i hi
    exact ⟨(hb.cell (p := x.add (i * 2)) (by rw [addr_add_block]; exact h.1)).trans h1, (hb.cell (p := x.add (i * 2 + 1)) (by rw [addr_add_block]; exact h.1)).trans h2⟩⟩

/-- A slice of terms that came in. -/
structure IsTerms (w : World) (a : Option Addr) (n : Nat) (ts : List Tm) : Prop where
  len : ts.length = n
  max : n ≤ maxLen
  at_ : 0 < n → ∃ x, a = some x ∧ TermsAt w x ts
  small : ∀ t ∈ ts, t.s.size ≤ maxLen ∧ -9223372036854775808 ≤ t.c ∧ t.c ≤ 9223372036854775807
theorem IsTerms.below {w w' : World} {a : Option Addr} {n : Nat} {ts : List Tm} (h : IsTerms w a n ts) (hb : Below w.heap.size w w') : IsTerms w' a n ts :=
  ⟨h.len, h.max, fun h0 => by obtain ⟨x, e, hx⟩ := h.at_ h0; exact ⟨x, e, hx.below hb⟩, h.small⟩

/-! ### Worlds behind w, what was there as it was -/
structure BelowBy (w : World) where
  world : World
  below : Below w.heap.size w world
instance (w : World) : Inhabited (BelowBy w) := ⟨⟨w, Below.refl _ _⟩⟩
theorem wp_region_below {P : Program} {id : Nat} {Q : Exit → Act → World → Prop} {a : Act} {w : World} {l : List Oper} (hm : P.follows .mixedOrders = true) (hB : Region.lexB .any l.toArray = true)
    (h : wpQuiet P l.toArray (fun w' => ∃ p : BelowBy w, w' = p.world) (fun a' => ∀ w', (∃ p : BelowBy w, w' = p.world) → Q .normal a' w') l a) : (Code.region id l.toArray true).wp P Q a w :=
  wp_region_quiet (C := fun w' => ∃ p : BelowBy w, w' = p.world) hm hB ⟨⟨w.drew, (Below.refl _ _).drew⟩, rfl⟩ (by simpa using h)
theorem BelowBy.cell {w : World} {a : Addr} {v : Value} (hb : a.block < w.heap.size) (h : w.cell? a = some v) (p : BelowBy w) : p.world.cell? a = some v := (p.below.cell (p := a) hb).trans h
theorem Calls.bel {P : Program} {f : FuncId} {args : Array Value} {w : World} {p : BelowBy w} {v : Value}
    (h : Calls P f args p.world fun e w' => e = .returned v ∧ Below p.world.heap.size p.world w') : Calls P f args p.world fun e w'' => e = .returned v ∧ ∃ q : BelowBy w, w'' = q.world :=
  h.mono fun _ w' ⟨he, hb⟩ => ⟨he, ⟨w', p.below.trans (hb.mono p.below.size)⟩, rfl⟩

abbrev TI : TypeId := 48
theorem infoTerm : (Tryd.prog.info? TI).map (fun i => (i.zero, i.size, i.bytes)) = some (some (.agg #[.int .i64 0, .string ByteArray.empty]), 2, 24) := by kernel_rfl

end Go.Proofs.YtdhmicpoigoleabDoor

/- The contracts of the laws' own helpers on terms: a copy; are two equal. -/

namespace Go.Proofs.YtdhmicpoigoleabDoor
open Go.RowKit

def zeroTm : Tm := ⟨0, ByteArray.empty⟩
theorem made_terms (n : Nat) : (madeCells #[.int .i64 0, .string ByteArray.empty] (n * 2)).toList = termsV (List.replicate n zeroTm) := by
  apply List.ext_getElem
  · simp [madeCells, termsV_len]
  · intro j h1 h2
    have hj : j < n * 2 := by simpa [madeCells] using h1
    have hg := termsV_get (List.replicate n zeroTm) (j / 2) (by simp; omega)
    simp only [List.getElem_replicate] at hg
    have e1 : (madeCells #[.int .i64 0, .string ByteArray.empty] (n * 2)).toList[j] = #[Value.int .i64 0, .string ByteArray.empty][j % 2]! := by simp [madeCells]
    rw [e1]
    rcases Nat.mod_two_eq_zero_or_one j with h | h
    · rw [h]
      have e2 : j / 2 * 2 = j := by omega
      rw [e2] at hg
      have := (List.getElem?_eq_some_iff.1 hg.1).2
      rw [this]; rfl
    · rw [h]
      have e2 : j / 2 * 2 + 1 = j := by omega
      rw [e2] at hg
      have := (List.getElem?_eq_some_iff.1 hg.2).2
      rw [this]; rfl

/-- One term more is filled in. -/
theorem fill_terms (ts : List Tm) (n k : Nat) (hl : ts.length = n) (hk : k < n) :
    ((termsV (ts.take k ++ List.replicate (n - k) zeroTm)).set (k * 2) (.int .i64 (ts[k]'(by omega)).c)).set (k * 2 + 1) (.string (ts[k]'(by omega)).s) = termsV (ts.take (k + 1) ++ List.replicate (n - (k + 1)) zeroTm) := by
  have hkl : (termsV (ts.take k)).length = k * 2 := by rw [termsV_len, List.length_take, Nat.min_eq_left (by omega)]
  rw [termsV_append, show n - k = (n - (k + 1)) + 1 by omega, List.replicate_succ, termsV_cons, List.set_append_right _ _ (by omega), hkl, Nat.sub_self, List.set_cons_zero, List.set_append_right _ _ (by omega), hkl, Nat.add_sub_cancel_left, List.set_cons_succ, List.set_cons_zero,
    List.take_succ_eq_append_getElem (by omega : k < ts.length), termsV_append, termsV_append, List.append_assoc]
  rfl

/-- A row of terms of the call's own reads as terms. -/
theorem termsAt_of_owns {w : World} {base g cap n : Nat} {e : TypeId} {ts : List Tm} (hn : ts.length = n) (h : w.ownsRow base e 2 (.slice (some ⟨g, 0, none⟩) n cap) n (termsV ts)) : TermsAt w ⟨g, 0, none⟩ ts := by
  have hg : g < w.heap.size := by
    rcases h.2 with ⟨h, _⟩ | ⟨g1, cap1, cur, h1, _, hgb, _⟩
    · cases h
    · cases h1; exact (Array.getElem?_eq_some_iff.1 hgb).1
  have ha : ∀ j, (⟨g, 0, none⟩ : Addr).add j = ⟨g, j, none⟩ := fun j => by unfold Addr.add; split <;> simp_all
  refine ⟨hg, fun i hi => ?_⟩
  rw [ha, ha, h.cellAt _ (by omega), h.cellAt _ (by omega)]
  exact termsV_get ts i hi

end Go.Proofs.YtdhmicpoigoleabDoor

/- The contracts of the model's functions on words: is a text a word, reducing, what is told. -/

namespace Go.Proofs.YtdhmicpoigoleabDoor
open Go.RowKit

theorem letters_is (s : ByteArray) (b : Bool) (w : World) (hs : s.size ≤ maxLen) (h : letL s.data.toList = b) :
    Calls Tryd.prog 52 #[.string s] w fun e w' => e = .returned (.bool b) ∧ w = w' := by
  rw [← h]; exact letters_any s w hs
theorem reduce_is (s r : ByteArray) (w : World) (hs : s.size ≤ 1048576) (h : bstr (redL [] s.data.toList) = r) :
    Calls Tryd.prog 40 #[.string s] w fun e w' => e = .returned (.string r) ∧ Below w.heap.size w w' := by
  rw [← h]; exact reduce_any s w hs

theorem sWordIn_any (s : ByteArray) (w : World) (hs : s.size ≤ maxLen) :
    Calls Tryd.prog 38 #[.string s] w fun e w' => e = .returned (.bool (wordB s.data.toList)) ∧ Below w.heap.size w w' := by
  have hm := hs
  unfold maxLen at hm
  by_cases h1 : s.size ≤ 60
  · cases h2 : letL s.data.toList with
    | true =>
      have H2 := Lib.hid h2
      clear h2
      go_enter Tryd.func38, Tryd.ntmps38
      go_wp2_with (first | (go_at_call 52; refine (letters_is _ true _ hs H2.out).mono ?_; rintro e w' ⟨rfl, rfl⟩) | (go_at_call 40; refine (reduce_any _ _ (by omega)).mono ?_; rintro e w1 ⟨rfl, hb⟩))
      go_ret
      exact ⟨ret_bool (by rw [bytes_beq, bstr_toList]; unfold wordB; rw [H2.out]; simp [h1]), by assumption⟩
    | false =>
      have H2 := Lib.hid h2
      clear h2
      go_enter Tryd.func38, Tryd.ntmps38
      go_wp2_with (go_at_call 52; refine (letters_is _ false _ hs H2.out).mono ?_; rintro e w' ⟨rfl, rfl⟩)
      go_ret
      exact ⟨ret_bool (by unfold wordB; rw [H2.out]; simp), Below.refl _ _⟩
  · go_enter Tryd.func38, Tryd.ntmps38
    go_wp2
    go_ret
    exact ⟨ret_bool (by unfold wordB; simp; omega), Below.refl _ _⟩

end Go.Proofs.YtdhmicpoigoleabDoor

/- The contracts of the model's functions on words, second part: inverses, cores. -/

namespace Go.Proofs.YtdhmicpoigoleabDoor
open Go.RowKit

theorem sWordIn_is (s : ByteArray) (b : Bool) (w : World) (hs : s.size ≤ maxLen) (h : wordB s.data.toList = b) :
    Calls Tryd.prog 38 #[.string s] w fun e w' => e = .returned (.bool b) ∧ Below w.heap.size w w' := by
  rw [← h]; exact sWordIn_any s w hs

theorem extract_core (s : ByteArray) : (s.extract 1 (s.size - 1)).data.toList = s.data.toList.tail.dropLast := by
  rw [Lib.extract_data, List.dropLast_eq_take]
  simp

end Go.Proofs.YtdhmicpoigoleabDoor

/- The contracts of the model's 'l6In', 'l2Less', 'SumIn'. -/

namespace Go.Proofs.YtdhmicpoigoleabDoor
open Go.RowKit

def inR (a b c : Int) : Bool := decide (a ≤ c) && decide (c ≤ b)
/-- Shorter words first, of one length byte by byte. -/
def lessW (a b : ByteArray) : Bool := if a.size = b.size then Op.bytesLess a.toList b.toList else decide (a.size < b.size)
/-- Is the term at j as a sum wants it, beside the one ahead of it? -/
def goodAt (ts : List Tm) (j : Nat) : Bool :=
  (ts.getD j default).c != 0 && inR (-1000000) 1000000 (ts.getD j default).c && wordB (ts.getD j default).s.data.toList && (decide (j = 0) || lessW (ts.getD (j - 1) default).s (ts.getD j default).s)
def allGood (ts : List Tm) (n : Nat) : Bool := (List.range n).all (goodAt ts)
theorem allGood_succ (ts : List Tm) (n : Nat) : allGood ts (n + 1) = (allGood ts n && goodAt ts n) := by simp [allGood, List.range_succ]
theorem allGood_false (ts : List Tm) (n k : Nat) (hk : k < n) (h : goodAt ts k = false) : allGood ts n = false :=
  List.all_eq_false.2 ⟨k, List.mem_range.2 hk, by simp [h]⟩
/-- Is this a sum? -/
def sumB (ts : List Tm) : Bool := allGood ts ts.length && decide (ts.length ≤ 300)

theorem sumB_false (ts : List Tm) (k : Nat) (hk : k < ts.length) (h : goodAt ts k = false) : sumB ts = false := by
  unfold sumB; rw [allGood_false ts _ k hk h, Bool.false_and]
theorem goodAt_c (ts : List Tm) (k : Nat) (t : Tm) (ht : ts.getD k default = t) (h : t.c = 0) : goodAt ts k = false := by
  unfold goodAt; rw [ht, h]; rfl
theorem goodAt_r (ts : List Tm) (k : Nat) (t : Tm) (ht : ts.getD k default = t) (h : inR (-1000000) 1000000 t.c = false) : goodAt ts k = false := by
  unfold goodAt; rw [ht, h]; simp
theorem goodAt_w (ts : List Tm) (k : Nat) (t : Tm) (ht : ts.getD k default = t) (h : wordB t.s.data.toList = false) : goodAt ts k = false := by
  unfold goodAt; rw [ht, h]; simp
theorem goodAt_zero (ts : List Tm) (k : Nat) (t : Tm) (hk : k = 0) (ht : ts.getD k default = t) (h0 : ¬ t.c = 0) (h1 : inR (-1000000) 1000000 t.c = true) (h2 : wordB t.s.data.toList = true) : goodAt ts k = true := by
  unfold goodAt; rw [ht, h1, h2]; simp [h0, hk]
theorem goodAt_succ (ts : List Tm) (k : Nat) (t p : Tm) (hk : 0 < k) (ht : ts.getD k default = t) (hp : ts.getD (k - 1) default = p) (h0 : ¬ t.c = 0) (h1 : inR (-1000000) 1000000 t.c = true) (h2 : wordB t.s.data.toList = true) : goodAt ts k = lessW p.s t.s := by
  have h3 : ¬ k = 0 := by omega
  unfold goodAt; rw [ht, hp, h1, h2]; simp [h0, h3]

theorem l6In_any (c a b : Int) (w : World) :
    Calls Tryd.prog 34 #[.int .i64 c, .int .i64 a, .int .i64 b] w fun e w' => e = .returned (.bool (inR a b c)) ∧ w = w' := by
  by_cases h : a ≤ c
  · go_enter Tryd.func34, Tryd.ntmps34
    go_wp2
    go_ret
    exact ⟨ret_bool (by simp [inR, h]), rfl⟩
  · go_enter Tryd.func34, Tryd.ntmps34
    go_wp2
    go_ret
    exact ⟨ret_bool (by unfold inR; rw [decide_eq_false (by omega : ¬ a ≤ c)]; rfl), rfl⟩

theorem l2Less_any (a b : ByteArray) (w : World) :
    Calls Tryd.prog 36 #[.string a, .string b] w fun e w' => e = .returned (.bool (lessW a b)) ∧ w = w' := by
  by_cases h : a.size = b.size
  · go_enter Tryd.func36, Tryd.ntmps36
    go_wp2
    go_ret
    exact ⟨ret_bool (by unfold lessW; rw [if_pos h]), rfl⟩
  · have hne : (((a.size : Int) != (b.size : Int)) : Bool) = true := by simp; omega
    go_enter Tryd.func36, Tryd.ntmps36
    go_wp2
    go_ret
    exact ⟨ret_bool (by unfold lessW; rw [if_neg h]), rfl⟩

theorem l6In_is (c a b : Int) (r : Bool) (w : World) (h : inR a b c = r) :
    Calls Tryd.prog 34 #[.int .i64 c, .int .i64 a, .int .i64 b] w fun e w' => e = .returned (.bool r) ∧ Below w.heap.size w w' :=
  (l6In_any c a b w).mono fun _ _ ⟨h1, h2⟩ => ⟨by rw [h1, h], by rw [← h2]; exact Below.refl _ _⟩
theorem l2Less_is (a b : ByteArray) (r : Bool) (w : World) (h : lessW a b = r) :
    Calls Tryd.prog 36 #[.string a, .string b] w fun e w' => e = .returned (.bool r) ∧ Below w.heap.size w w' :=
  (l2Less_any a b w).mono fun _ _ ⟨h1, h2⟩ => ⟨by rw [h1, h], by rw [← h2]; exact Below.refl _ _⟩

end Go.Proofs.YtdhmicpoigoleabDoor

/- The order of terms: the contracts of cmp.Compare, strings.Compare, cmp.Or and the program's 'compareTerms'. -/

namespace Go.Proofs.YtdhmicpoigoleabDoor
open Go.RowKit Go.Sort

theorem isNaN_any (x : Int) (w : World) : Calls Tryd.prog 69 #[.int .i64 x] w fun e w' => e = .returned (.bool false) ∧ w = w' := by
  go_enter Tryd.func69, Tryd.ntmps69
  go_wp2
  go_ret
  exact ⟨rfl, rfl⟩

set_option maxHeartbeats 1000000 in
theorem compareInt_any (x y : Int) (w : World) : Calls Tryd.prog 49 #[.int .i64 x, .int .i64 y] w fun e w' => e = .returned (.int .i64 (Lib.compareInt x y)) ∧ w = w' := by
  go_enter Tryd.func49, Tryd.ntmps49
  go_wp2_with (go_at_call 69; refine (isNaN_any _ _).mono ?_; rintro e w' ⟨rfl, rfl⟩)
  all_goals (go_ret; refine ⟨?_, rfl⟩; unfold Lib.compareInt; (repeat' split) <;> first | rfl | (exfalso; omega))

set_option maxRecDepth 100000 in
set_option maxHeartbeats 1000000 in
theorem compareString_any (a b : ByteArray) (w : World) :
    Calls Tryd.prog 70 #[.string a, .string b] w fun e w' => e = .returned (.int .i64 (Lib.compareBytes a.data.toList b.data.toList)) ∧ w = w' := by
  go_enter Tryd.func70, Tryd.ntmps70
  go_wp2
  rw [run_callFunc_extern Tryd.func78 (by kernel_rfl) (by kernel_rfl) (by kernel_rfl) (e := Extern.BytealgCompare.compare) (by kernel_rfl), Lib.run_compareString]
  simp only [Result.andThen]
  rw [Oper.upon_value]
  go_wp2
  go_ret
  exact ⟨rfl, rfl⟩

theorem stringsCompare_any (a b : ByteArray) (w : World) :
    Calls Tryd.prog 50 #[.string a, .string b] w fun e w' => e = .returned (.int .i64 (Lib.compareBytes a.data.toList b.data.toList)) ∧ w = w' := by
  go_enter Tryd.func50, Tryd.ntmps50
  go_wp2_with (go_at_call 70; refine (compareString_any _ _ _).mono ?_; rintro e w' ⟨rfl, rfl⟩)
  go_ret
  exact ⟨rfl, rfl⟩

theorem ret_i64 {a b : Int} (h : a = b) : Ending.returned (.int .i64 a) = .returned (.int .i64 b) := by rw [h]
def orInt (x y : Int) : Int := if x = 0 then y else x
set_option maxHeartbeats 1000000 in
theorem or_any (g cap : Nat) (x y : Int) (w : World) (h0 : w.cell? ⟨g, 0, none⟩ = some (.int .i64 x)) (h1 : w.cell? ⟨g, 1, none⟩ = some (.int .i64 y)) :
    Calls Tryd.prog 48 #[.slice (some ⟨g, 0, none⟩) 2 cap] w fun e w' => e = .returned (.int .i64 (orInt x y)) ∧ w = w' := by
  by_cases hx : x = 0
  · subst hx
    by_cases hy : y = 0
    · subst hy
      go_enter Tryd.func48, Tryd.ntmps48
      go_wp2
      go_loop [8] (fun i => ∃ k : Nat, k ≤ 2 ∧ i = .int .i64 k) (fun i => 2 - (intOf i).toNat)
      case atStart => exact ⟨0, by omega, rfl⟩
      case round =>
        obtain ⟨k, hk, rfl⟩ := hrel
        by_cases hk2 : k < 2
        · have hc : w.cell? ⟨g, k, none⟩ = some (.int .i64 0) := by
            have : k = 0 ∨ k = 1 := by omega
            rcases this with rfl | rfl
            · exact h0
            · exact h1
          clear h0 h1
          go_wp2
          go_round
          case rel => exact ⟨k + 1, by omega, by go_num⟩
          case measure => simp [intOf]; omega
        · go_wp2
          go_ret
          exact ⟨rfl, rfl⟩
    · go_enter Tryd.func48, Tryd.ntmps48
      go_wp2
      go_loop [8] (fun i => ∃ k : Nat, k ≤ 1 ∧ i = .int .i64 k) (fun i => 2 - (intOf i).toNat)
      case atStart => exact ⟨0, by omega, rfl⟩
      case round =>
        obtain ⟨k, hk, rfl⟩ := hrel
        have hk2 : k < 2 := by omega
        by_cases hk1 : k < 1
        · obtain rfl : k = 0 := by omega
          clear h1
          have hyb : (y != 0) = true := by simpa using hy
          go_wp2
          go_round
          case rel => exact ⟨1, by omega, by go_num⟩
          case measure => simp [intOf]
        · obtain rfl : k = 1 := by omega
          clear h0
          have hyb : (y != 0) = true := by simpa using hy
          go_wp2
          go_ret
          exact ⟨ret_i64 (by unfold orInt; simp), rfl⟩
  · have hxb : (x != 0) = true := by simpa using hx
    go_enter Tryd.func48, Tryd.ntmps48
    go_wp2
    go_loop [8] (fun i => i = .int .i64 0) (fun i => 2 - (intOf i).toNat)
    case atStart => exact rfl
    case round =>
      obtain rfl := hrel
      clear h1
      go_wp2
      go_ret
      exact ⟨ret_i64 (by unfold orInt; rw [if_neg hx]), rfl⟩

theorem or_new (x y : Int) (V : World) : Calls Tryd.prog 48 #[.slice (some ⟨V.heap.size, 0, none⟩) 2 2] (V.alloc (.cells #[.int .i64 x, .int .i64 y] 3)).drew fun e w' => e = .returned (.int .i64 (orInt x y)) ∧ (V.alloc (.cells #[.int .i64 x, .int .i64 y] 3)).drew = w' :=
  or_any _ _ _ _ _ ((World.cell?_alloc_at _ _ _ _ rfl).trans rfl) ((World.cell?_alloc_at _ _ _ _ rfl).trans rfl)
/-- The order of texts. -/
def cmpW (a b : ByteArray) : Int := orInt (Lib.compareInt a.size b.size) (Lib.compareBytes a.data.toList b.data.toList)

theorem grow_alloc (w : World) (os : Array Obj) (o : Obj) : (grow w os).alloc o = grow w (os.push o) := by
  unfold grow World.alloc
  simp
theorem alloc_grow (w : World) (o : Obj) : w.alloc o = grow w #[o] := by
  unfold grow World.alloc
  simp

/-- Behind w: some draws, some blocks. -/
def Grew (w w' : World) : Prop := ∃ q os, w' = grow (w.drewN q) os
theorem Grew.refl (w : World) : Grew w w := ⟨0, #[], by unfold grow World.drewN; simp⟩
theorem Grew.alloc {w w' : World} (h : Grew w w') (o : Obj) : Grew w (w'.alloc o) := by
  obtain ⟨q, os, rfl⟩ := h
  exact ⟨q, os.push o, grow_alloc _ _ _⟩
theorem Grew.drew {w w' : World} (h : Grew w w') : Grew w w'.drew := by
  obtain ⟨q, os, rfl⟩ := h
  exact ⟨q + 1, os, rfl⟩
theorem Grew.below {w w' : World} (h : Grew w w') : Below w.heap.size w w' := by
  obtain ⟨q, os, rfl⟩ := h
  refine ⟨rfl, rfl, rfl, by simp [grow], fun k hk => ?_⟩
  simp only [grow, World.heap_drewN]
  rw [Array.getElem?_append_left hk]

set_option maxRecDepth 100000 in
set_option maxHeartbeats 4000000 in
theorem compareTerms_any (a b : Tm) (w : World) :
    Calls Tryd.prog 33 #[.agg #[.int .i64 a.c, .string a.s], .agg #[.int .i64 b.c, .string b.s]] w fun e w' => e = .returned (.int .i64 (cmpW a.s b.s)) ∧ Grew w w' := by
  obtain ⟨c, s⟩ := a
  obtain ⟨d, t⟩ := b
  have hmx : Tryd.prog.follows .mixedOrders = true := by kernel_rfl
  go_enter Tryd.func33, Tryd.ntmps33
  go_wp2
  obtain ⟨V, hV⟩ : ∃ V, (w.alloc (.cells #[.int .i64 c, .string s] TI)).alloc (.cells #[.int .i64 d, .string t] TI) = V := ⟨_, rfl⟩
  have hgV : Grew w V := by rw [← hV]; exact ((Grew.refl w).alloc _).alloc _
  have k0 : V.cell? ⟨w.heap.size, 1, none⟩ = some (.string s) := by rw [← hV, World.cell?_alloc_lt _ _ _ (by show w.heap.size < _; simp)]; exact (World.cell?_alloc_at _ _ _ _ (by simp)).trans rfl
  have k1 : V.cell? ⟨w.heap.size + 1, 1, none⟩ = some (.string t) := by rw [← hV]; exact (World.cell?_alloc_at _ _ _ _ (by simp)).trans rfl
  rw [hV]
  have HV := Lib.hid hgV
  have hz : V.heap.size = w.heap.size + 2 := by rw [← hV]; simp
  have HZ := Lib.hid hz
  have q0 : ∀ o, (V.drew.alloc o).cell? ⟨w.heap.size, 1, none⟩ = some (.string s) := fun o => (World.cell?_alloc_lt _ _ _ (by show w.heap.size < V.heap.size; omega)).trans k0
  have q1 : ∀ o, (V.drew.alloc o).cell? ⟨w.heap.size + 1, 1, none⟩ = some (.string t) := fun o => (World.cell?_alloc_lt _ _ _ (by show w.heap.size + 1 < V.heap.size; omega)).trans k1
  clear hgV hV hz
  go_region_held3 (fun W : World => W.cell? ⟨w.heap.size, 1, none⟩ = some (.string s) ∧ W.cell? ⟨w.heap.size + 1, 1, none⟩ = some (.string t)) (first | exact ⟨k0, k1⟩ | exact ⟨q0 _, q1 _⟩ | go_keep) (first | (go_at_call 49; refine (compareInt_any _ _ _).mono ?_; rintro e w' ⟨rfl, rfl⟩) | (go_at_call 50; refine (stringsCompare_any _ _ _).mono ?_; rintro e w' ⟨rfl, rfl⟩) | (go_at_call 48; refine (or_new _ _ _).mono ?_; rintro e w' ⟨rfl, rfl⟩))
  go_wp2
  go_ret
  exact ⟨rfl, (HV.out.alloc _).drew⟩

end Go.Proofs.YtdhmicpoigoleabDoor

/- The contracts of the program's small functions on letters, and of the iterators over a text and over a word. -/

namespace Go.Proofs.YtdhmicpoigoleabDoor
open Go.RowKit Go.Shelf

theorem xor_tab : ((List.range 256).all fun n => decide (bits BinOp.xor IntKind.u8 (n : Int) 32 = ((invB (UInt8.ofNat n)).toNat : Int))) = true := by kernel_rfl
theorem or_tab : ((List.range 256).all fun n => (decide (97 ≤ bits BinOp.or IntKind.u8 (n : Int) 32) && decide (bits BinOp.or IntKind.u8 (n : Int) 32 < 101)) == (decide ((97 ≤ n ∧ n ≤ 100) ∨ (65 ≤ n ∧ n ≤ 68)))) = true := by kernel_rfl

theorem xor_let (c : UInt8) : bits BinOp.xor IntKind.u8 (c.toNat : Int) 32 = ((invB c).toNat : Int) := by
  have := List.all_eq_true.1 xor_tab c.toNat (List.mem_range.2 c.toNat_lt)
  simp only [decide_eq_true_eq, UInt8.ofNat_toNat] at this
  exact this
theorem or_let (c : UInt8) : (decide (97 ≤ bits BinOp.or IntKind.u8 (c.toNat : Int) 32) && decide (bits BinOp.or IntKind.u8 (c.toNat : Int) 32 < 101)) = letB c := by
  have := List.all_eq_true.1 or_tab c.toNat (List.mem_range.2 c.toNat_lt)
  rw [beq_iff_eq] at this
  rw [this]; rfl

theorem known_any (c : UInt8) (w : World) :
    Calls Tryd.prog 80 #[.int .u8 (c.toNat : Int)] w fun e w' => e = .returned (.bool (letB c)) ∧ w' = w := by
  have H := Lib.hid (or_let c)
  go_enter Tryd.func80, Tryd.ntmps80
  go_wp2
  · go_ret
    refine ⟨ret_bool ?_, rfl⟩
    rw [← H.out]
    have h1 : 97 ≤ bits BinOp.or IntKind.u8 (c.toNat : Int) 32 := by assumption
    simp [h1]
  · go_ret
    refine ⟨ret_bool ?_, rfl⟩
    rw [← H.out]
    have h1 : bits BinOp.or IntKind.u8 (c.toNat : Int) 32 < 97 := by first | assumption | omega
    have h2 : ¬ 97 ≤ bits BinOp.or IntKind.u8 (c.toNat : Int) 32 := by omega
    simp [h2]

theorem known_is (c : UInt8) (b : Bool) (w : World) (h : letB c = b) :
    Calls Tryd.prog 80 #[.int .u8 (c.toNat : Int)] w fun e w' => e = .returned (.bool b) ∧ w' = w := by
  rw [← h]; exact known_any c w

theorem infoLet : (Tryd.prog.info? 131).map (fun i => (i.zero, i.size, i.bytes)) = some (some (.int .u8 0), 1, 1) := by kernel_rfl

theorem signsOf_any (s : ByteArray) (w : World) :
    Calls Tryd.prog 79 #[.string s] w fun e w' => e = .returned (.func (.func 83) #[] #[.pointer (some ⟨w.heap.size, 0, none⟩)]) ∧ w' = w.alloc (.cells #[.string s] 9) := by
  go_enter Tryd.func79, Tryd.ntmps79
  go_wp2
  go_ret
  exact ⟨rfl, rfl⟩
end Go.Proofs.YtdhmicpoigoleabDoor

/- A loop over an iterator whose own body may hold such a loop: what a round keeps; the loop's law for bodies that never leave it. -/

namespace Go.Proofs.YtdhmicpoigoleabDoor
open Go.RowKit Go.Shelf

abbrev encB (c : UInt8) : Array Value := #[.int .u8 (c.toNat : Int)]
/-- The type of a row's letters. -/
abbrev TL : TypeId := 131

/-- Cells that are no letters lie as they lay, but for the box B. -/
def KeepT (B : Nat) (W W' : World) : Prop := ∀ k cs t r, W.heap[k]? = some (.cells cs t r) → t ≠ TL → k ≠ B → W'.heap[k]? = some (.cells cs t r)
theorem KeepT.refl (B : Nat) (W : World) : KeepT B W W := fun _ _ _ _ h _ _ => h
theorem KeepT.trans {B : Nat} {X Y Z : World} (h : KeepT B X Y) (k : KeepT B Y Z) : KeepT B X Z := fun i cs t r hi ht hB => k i cs t r (h i cs t r hi ht hB) ht hB
theorem KeepT.putObj {B : Nat} {W : World} {l : Nat} {o : Obj} (o' : Obj) (hl : W.heap[l]? = some o) (ho : o.isCells = false) : KeepT B W (W.putObj l o') := fun k cs t r hk _ _ => by
  refine (World.putObj_heap_other (fun e => ?_)).trans hk
  subst e
  rw [hl] at hk; cases hk; cases ho
theorem KeepT.drewN (B : Nat) (W : World) (q : Nat) : KeepT B W (W.drewN q) := fun _ _ _ _ h _ _ => h
theorem KeepT.boxed {B k : Nat} {W W' : World} {t : TypeId} {v : Value} (h : KeepT B W W') (hb : Boxed W k t v) (ht : t ≠ TL) (hk : k ≠ B) : Boxed W' k t v := h k _ t _ hb ht hk

theorem keepsFrom_mono {B B' : Nat} {W W' : World} (h : KeepsFrom B W W') (hb : B ≤ B') : KeepsFrom B' W W' := ⟨h.size, fun k o hk => h.same k o (by omega)⟩
/-- What a round of the caller's body keeps. -/
def KeepR (n₀ B N : Nat) (W W' : World) : Prop := Below n₀ W W' ∧ KeepT B W W' ∧ KeepsFrom N W W'

theorem roundIn_any {m m' : Nat} {l : Nat} {P : Program} {f : FuncId} {tmps : Array Value} {assign body : Code} {w : World} {R : Ending → World → Prop} (h : RoundIn Fence.wide m P l f tmps assign body w R) : RoundIn Fence.wide m' P l f tmps assign body w R :=
  ⟨h.1, fun c cs _ => h.2 c cs (fun _ hd => by cases hd)⟩
theorem roundIn_inRound {m l' : Nat} {l : Nat} {P : Program} {f : FuncId} {tmps : Array Value} {assign body : Code} {w : World} {R : Ending → World → Prop} (h : RoundIn Fence.wide m P l f tmps assign body w R) : RoundIn (Fence.wide.inRound l') m P l f tmps assign body w R := h

/-- A value that gives the letters xs to every loop that never leaves its body. -/
def SeqO (n₀ : Nat) (w : World) (gf : Nat) (lb : Array Value) (xs : List UInt8) : Prop :=
  ∀ n, 12 ≤ n → ∀ (l B : Nat) (J : List UInt8 → World → Prop) (W : World), Below w.heap.size w W → n₀ ≤ B → B < W.heap.size → OwnFrom W.heap.size J →
    (∀ pre x W1, J pre W1 → pre ++ [x] <+: xs → YieldAt Fence.wide (n - 1) Tryd.prog l (encB x) W1 fun e W' => e = .returned (.bool true) ∧ J (pre ++ [x]) W' ∧ KeepR n₀ B W.heap.size W1 W') →
    J [] W →
    CallsIn Fence.wide n Tryd.prog gf (#[.func (.yield l) #[] #[]] ++ lb) W fun e W' => (∃ v, e = .returned v) ∧ J xs W'

theorem SeqO.later {n₀ n₁ : Nat} {w w' : World} {gf : Nat} {lb : Array Value} {xs : List UInt8} (h : SeqO n₀ w gf lb xs) (hb : Below w.heap.size w w') (hn : n₀ ≤ n₁) : SeqO n₁ w' gf lb xs :=
  fun n h8 l B J W hW hnB hB hJ hY h0 => h n h8 l B J W (hb.trans (hW.mono hb.size)) (Nat.le_trans hn hnB) hB hJ
    (fun pre x W1 hj hl => (hY pre x W1 hj hl).mono (fun _ _ ⟨a, b, c⟩ => ⟨a, b, c.1.mono hn, c.2⟩)) h0

theorem prefix_len {α : Type} {pre xs : List α} {x : α} (h : pre ++ [x] <+: xs) : pre.length < xs.length := by
  have := h.length_le; simp at this; omega
theorem prefix_mem {α : Type} {pre xs : List α} {x : α} (h : pre ++ [x] <+: xs) : x ∈ xs := h.subset (by simp)

/-- How a round's body ends: it goes on. -/
def goesOn {α : Type} (B : Nat) (Kp : Nat → World → World → Prop) (I : List α → World → Prop) (xs : List α) (W : World) : Exit → Act → World → Prop
  | .normal, _, W' => KeepsFrom B W W' ∧ Kp B W W' ∧ I xs W'
  | _, _, _ => False

/-- **The loop's law.** -/
theorem range_law {α : Type} {n : Nat} {g : Operand} {ps : Array Tmp} {assign body : Code} {Q : Exit → Act → World → Prop} {a : Act} {w : World} {gf : Nat} {lb : Array Value} (hn : 10 ≤ n)
    (hg : a.eval g = .func (.func gf) #[] lb) (eg : ∀ args w, (callFunc gf args).run Tryd.prog w = .ok (.enter gf args) w)
    {encs : α → Array Value} (hps : ∀ x, (encs x).size = ps.size) (Kp : Nat → World → World → Prop) (hKt : ∀ {N X Y Z}, Kp N X Y → Kp N Y Z → Kp N X Z)
    (hKp : ∀ N W l o o', l < N → w.heap.size ≤ l → W.heap[l]? = some o → o.isCells = false → o.isWalk = false → Kp N W (W.putObj l o')) (hKm : ∀ {X Y}, Kp w.heap.size X Y → Kp (w.heap.size + 2) X Y)
    {xs : List α}
    (hseq : ∀ (l : Nat) (J : List α → World → Prop) (V : World), Below w.heap.size w V → w.heap.size < V.heap.size → OwnFrom V.heap.size J →
      (∀ pre x W1, J pre W1 → pre ++ [x] <+: xs → YieldAt Fence.wide (n - 1 - 1) Tryd.prog l (encs x) W1 fun e W' => e = .returned (.bool true) ∧ J (pre ++ [x]) W' ∧ Kp V.heap.size W1 W') → J [] V →
      CallsIn Fence.wide (n - 1) Tryd.prog gf (#[.func (.yield l) #[] #[]] ++ lb) V fun e W' => (∃ v, e = .returned v) ∧ J xs W')
    (I : List α → World → Prop) (hI : OwnFrom w.heap.size I) (h0 : I [] w) (a₁ : α → Act)
    (hassign : ∀ (l : Nat) (x : α) (W : World) (K : Act → World → Prop), K (a₁ x) W →
      assign.wpIn (Fence.wide.inRound l) (n - 1 - 1) Tryd.prog (Exit.then K (fun _ _ _ => False)) { tmps := (ps.zip (encs x)).foldl (fun t (q, v) => t.setIfInBounds q v) a.tmps, defers := [] } W)
    (hbody : ∀ (l : Nat) (pre : List α) (x : α) (W : World), I pre W → pre ++ [x] <+: xs →
      body.wpIn (Fence.wide.inRound l) (n - 1 - 1) Tryd.prog (goesOn w.heap.size Kp I (pre ++ [x]) W) (a₁ x) W)
    (hdone : ∀ (D : Nat) (W : World), w.heap.size ≤ D → I xs W → W.heap[D]? = some (.deferred (some [])) → Q .normal { a with defers := { target := .collected D, args := #[] } :: a.defers } W) :
    (Code.rangeFunc g ps assign body).wpIn Fence.wide n Tryd.prog Q a w := by
  refine wpIn_rangeFunc fun fn hfn => ?_
  have lp : ∃ lp : LoopState → Loop, lp = fun st => { state := st, pending := none, fn, tmps := a.tmps, params := ps, assign, body, defers := w.heap.size } := ⟨_, rfl⟩
  obtain ⟨lp, hlp⟩ := lp
  have e1 := run_enterLoop_outer (P := Tryd.prog) (w := w) fn a.tmps ps assign body
  rw [show ({ state := .ready, pending := none, fn, tmps := a.tmps, params := ps, assign, body, defers := w.heap.size } : Loop) = lp .ready by rw [hlp]] at e1
  have kD : ((w.alloc (.deferred (some []))).alloc (.loop (lp .ready))).heap[w.heap.size]? = some (.deferred (some [])) := (Below.heap_alloc _ _ _ (by simp)).trans (World.alloc_heap_new w _)
  have kL : ((w.alloc (.deferred (some []))).alloc (.loop (lp .ready))).heap[w.heap.size + 1]? = some (.loop (lp .ready)) := by
    have := World.alloc_heap_new (w.alloc (.deferred (some []))) (.loop (lp .ready)); rwa [World.size_alloc] at this
  have i0 := hI.alloc (Obj.loop (lp .ready)) (hI.alloc (Obj.deferred (some [])) h0)
  have hs : ((w.alloc (.deferred (some []))).alloc (.loop (lp .ready))).heap.size = w.heap.size + 2 := by simp
  have hb : Below w.heap.size w ((w.alloc (.deferred (some []))).alloc (.loop (lp .ready))) := ((Below.refl _ w).alloc (Nat.le_refl _) _).alloc (by simp) _
  generalize ((w.alloc (.deferred (some []))).alloc (.loop (lp .ready))) = V at e1 kD kL i0 hs hb
  refine ⟨w.heap.size + 1, _, V, { target := .fn (.func gf) lb, args := #[.func (.yield (w.heap.size + 1)) #[] #[]] }, V, gf, #[.func (.yield (w.heap.size + 1)) #[] #[]] ++ lb, V, e1, ?_, fun f' hf' => ?_, ?_, fun _ => by omega, ?_⟩
  · simp only [resolve, hg]
    simp [go_sem]
  · trivial
  · simp [invoke, go_sem, eg]
  · refine (hseq (w.heap.size + 1) (fun pre W => I pre W ∧ W.heap[w.heap.size]? = some (.deferred (some [])) ∧ W.heap[w.heap.size + 1]? = some (.loop (lp .ready))) V hb (by omega) ?_ ?_ ⟨i0, kD, kL⟩).mono ?_
    · rintro s X Y row ⟨h1, h2, h3⟩ hgr hr
      have far : ∀ k, k < V.heap.size → k < X.heap.size → Y.heap[k]? = X.heap[k]? := fun k hk hX => hgr.block k hX (fun e => by have := (hr k e.symm).1; omega)
      exact ⟨hI s X Y row h1 hgr (fun r e => by obtain ⟨q1, q2⟩ := hr r e; exact ⟨by omega, q2⟩), (far _ (by omega) (Array.getElem?_eq_some_iff.1 h2).1).trans h2, (far _ (by omega) (Array.getElem?_eq_some_iff.1 h3).1).trans h3⟩
    · rintro pre x W ⟨h1, h2, h3⟩ hpre
      have hlt : w.heap.size + 1 < W.heap.size := (Array.getElem?_eq_some_iff.1 h3).1
      have hy := run_yield (P := Tryd.prog) (args := encs x) h3 (by rw [hlp]; exact hps x)
      rw [hlp] at hy
      refine ⟨fn, _, assign, body, hy, roundIn_of_wpIn hfn (hassign _ x W _ ⟨_, run_beginRound h3 (by rw [hlp]), ?_⟩)⟩
      have b3 : (W.putObj (w.heap.size + 1) (.loop { lp .ready with state := .busy })).heap[w.heap.size + 1]? = some (.loop { lp .ready with state := .busy }) := World.putObj_heap_same hlt
      have b2 : (W.putObj (w.heap.size + 1) (.loop { lp .ready with state := .busy })).heap[w.heap.size]? = some (.deferred (some [])) := (World.putObj_heap_other (by omega)).trans h2
      have b1 := hI.putObj (.loop { lp .ready with state := .busy }) h1 (by omega) h3 rfl
      have bk : Kp (w.heap.size + 2) W (W.putObj (w.heap.size + 1) (.loop { lp .ready with state := .busy })) := hKp _ W _ _ _ (by omega) (by omega) h3 rfl rfl
      generalize (W.putObj (w.heap.size + 1) (.loop { lp .ready with state := .busy })) = X at b1 b2 b3 bk
      refine wpIn_mono (hbody _ pre x X b1 hpre) ?_
      intro e a3 Y hgo
      cases e with
      | normal => ?_
      | _ => exact hgo.elim
      obtain ⟨k3, kp, hi⟩ := hgo
      have c3 := k3.same _ _ (by omega) b3 rfl
      have c2 := k3.same _ _ (Nat.le_refl _) b2 rfl
      have he := run_endRound (P := Tryd.prog) none c3
      refine ⟨_, _, he, rfl, ⟨hI.putObj _ hi (by omega) c3 rfl, (World.putObj_heap_other (by omega)).trans c2, ?_⟩, ?_⟩
      · rw [hlp]
        rw [hlp] at c3
        exact World.putObj_heap_same (Array.getElem?_eq_some_iff.1 c3).1
      · rw [hs]
        exact hKt (hKt bk (hKm kp)) (hKp _ Y _ _ _ (by omega) (by omega) c3 rfl rfl)
    · rintro e W ⟨⟨v, rfl⟩, h1, h2, h3⟩
      have he := run_endLoop (P := Tryd.prog) h3 (by rw [hlp]; simp)
      rw [show (lp .ready).pending = none by rw [hlp]] at he
      exact ⟨none, _, he, hdone _ _ (Nat.le_refl _) (hI.putObj _ h1 (by omega) h3 rfl) ((World.putObj_heap_other (by omega)).trans h2)⟩

/-- The law at an iterator over letters. -/
theorem range_letters {n : Nat} {g : Operand} {p : Tmp} {assign body : Code} {Q : Exit → Act → World → Prop} {a : Act} {w : World} {gf : Nat} {lb : Array Value} (hn : 14 ≤ n)
    (hg : a.eval g = .func (.func gf) #[] lb) (eg : ∀ args w, (callFunc gf args).run Tryd.prog w = .ok (.enter gf args) w)
    {n₀ B : Nat} {xs : List UInt8} (hseq : SeqO n₀ w gf lb xs) (hn₀ : n₀ ≤ w.heap.size) (hnB : n₀ ≤ B) (hB : B < w.heap.size)
    (I : List UInt8 → World → Prop) (hI : OwnFrom w.heap.size I) (h0 : I [] w) (a₁ : UInt8 → Act)
    (hassign : ∀ (l : Nat) (x : UInt8) (W : World) (K : Act → World → Prop), K (a₁ x) W →
      assign.wpIn (Fence.wide.inRound l) (n - 1 - 1) Tryd.prog (Exit.then K (fun _ _ _ => False)) { tmps := (#[p].zip (encB x)).foldl (fun t (q, v) => t.setIfInBounds q v) a.tmps, defers := [] } W)
    (hbody : ∀ (l : Nat) (pre : List UInt8) (x : UInt8) (W : World), I pre W → pre ++ [x] <+: xs →
      body.wpIn (Fence.wide.inRound l) (n - 1 - 1) Tryd.prog (goesOn w.heap.size (KeepR n₀ B) I (pre ++ [x]) W) (a₁ x) W)
    (hdone : ∀ (D : Nat) (W : World), w.heap.size ≤ D → I xs W → W.heap[D]? = some (.deferred (some [])) → Q .normal { a with defers := { target := .collected D, args := #[] } :: a.defers } W) :
    (Code.rangeFunc g #[p] assign body).wpIn Fence.wide n Tryd.prog Q a w :=
  range_law (by omega) hg eg (fun _ => rfl) (KeepR n₀ B) (fun h k => ⟨h.1.trans k.1, h.2.1.trans k.2.1, h.2.2.trans k.2.2⟩)
    (fun N W l o o' hl hwl hW ho hwk => ⟨belowK_b hn₀ W l o o' hwl hW ho hwk, KeepT.putObj _ hW ho, KeepsFrom.of_grownBy (grownBy_putObj' W l o') (fun j e => by cases e; exact hl)⟩)
    (fun h => ⟨h.1, h.2.1, keepsFrom_mono h.2.2 (by omega)⟩)
    (fun l J V hV hlt hJ hY h0 => hseq (n - 1) (by omega) l B J V hV hnB (by omega) hJ hY h0) I hI h0 a₁ hassign hbody hdone

end Go.Proofs.YtdhmicpoigoleabDoor

/- The iterators' contracts: over the bytes of a text, over the letters of a word, over those of its inverse. -/

namespace Go.Proofs.YtdhmicpoigoleabDoor
open Go.RowKit Go.Shelf

attribute [local go_sem] Oper.semAt_some

/-- A value that gives the letters xs, whatever the loop's body does above n₀. -/
def SeqOf (n₀ : Nat) (w : World) (gf : Nat) (lb : Array Value) (xs : List UInt8) : Prop :=
  ∀ n, 3 ≤ n → SeqStopsK Fence.wide n Tryd.prog gf lb encB (Below n₀) (fun ys => ys = xs) (fun pre => pre <+: xs) xs.length w

theorem SeqOf.later {n₀ n₁ : Nat} {w w' : World} {gf : Nat} {lb : Array Value} {xs : List UInt8} (h : SeqOf n₀ w gf lb xs) (hb : Below w.heap.size w w') (hn : n₀ ≤ n₁) : SeqOf n₁ w' gf lb xs :=
  fun n h3 l J Jx W hW hJ hJx hY h0 => h n h3 l J Jx W (hb.trans (hW.mono hb.size)) hJ hJx
    (fun pre x W1 hj hl => (hY pre x W1 hj hl).mono (fun _ _ hr => hr.elim (fun ⟨a, b, c⟩ => .inl ⟨a, b, c.mono hn⟩) .inr)) h0

set_option maxRecDepth 100000 in
set_option maxHeartbeats 1000000 in
/-- 'signsOf': the bytes of a text, one by one. -/
theorem signs1_in (n : Nat) (hn : 1 ≤ n) (l Bs n₀ : Nat) (s : ByteArray) (hs : s.size ≤ 1048576) (hb : Bs < n₀) (J Jx : List UInt8 → World → Prop)
    (hY : ∀ pre x W, J pre W → pre ++ [x] <+: s.data.toList → YieldAt Fence.wide (n - 1) Tryd.prog l (encB x) W fun e W' =>
      (e = .returned (.bool true) ∧ J (pre ++ [x]) W' ∧ Below n₀ W W') ∨ (e = .returned (.bool false) ∧ Jx (pre ++ [x]) W'))
    (W : World) (hBs : W.cell? ⟨Bs, 0, none⟩ = some (.string s)) (h0 : J [] W) :
    CallsIn Fence.wide n Tryd.prog 83 #[.func (.yield l) #[] #[], .pointer (some ⟨Bs, 0, none⟩)] W fun e W' => (∃ v, e = .returned v) ∧
      ((∃ ys, ys = s.data.toList ∧ J ys W') ∨ (∃ pre, pre <+: s.data.toList ∧ Jx pre W')) := by
  refine callsIn_of_wp Tryd.func83 rfl trivial ?_ rfl
  simp only [Tryd.ntmps83, List.size_toArray, List.length_cons, List.length_nil, Nat.reduceAdd, Nat.reduceSub, Array.replicate_succ, Array.replicate_zero, List.push_toArray, List.append_toArray, List.nil_append, List.cons_append]
  gi_wp2
  gi_loopw [6] (fun i wr => ∃ k : Nat, k ≤ s.size ∧ i = .int .i64 k ∧ J (s.data.toList.take k) wr ∧ Below n₀ W wr)
    (fun i _ => s.size - (intOf i).toNat)
  case atStart => exact ⟨0, Nat.zero_le _, rfl, h0, Below.refl _ _⟩
  case round =>
    obtain ⟨k, hk, rfl, hJs, hnx⟩ := hrel
    have hcx : wr.cell? ⟨Bs, 0, none⟩ = some (.string s) := (hnx.cell (p := ⟨Bs, 0, none⟩) hb).trans hBs
    by_cases hlt : k < s.size
    · have hl : k < s.data.toList.length := by simpa using hlt
      have HS : Hid (s.data.toList.take (k + 1) = s.data.toList.take k ++ [s[k]]) := take_snoc _ k hl
      obtain ⟨fn, tmps, assign, body, hy, hR⟩ := hY _ s[k] wr hJs (by rw [← HS.out]; exact List.take_prefix _ _)
      gi_wp2
      refine hR.mono ?_
      rintro e W3 (⟨rfl, hJ3, hk3⟩ | ⟨rfl, hJx3⟩)
      · gi_wp2
        go_roundw
        case rel => exact ⟨k + 1, by omega, by simp, by rw [HS.out]; exact hJ3, hnx.trans hk3⟩
        case measure => simp [intOf]; omega
      · gi_wp2
        refine bodyPost_ret (results_none rfl _ _ _) rfl ?_
        exact ⟨⟨_, rfl⟩, .inr ⟨_, by rw [← HS.out]; exact List.take_prefix _ _, hJx3⟩⟩
    · have HA : Hid (s.data.toList.take k = s.data.toList) := List.take_of_length_le (by simp; omega)
      gi_wp2
      go_end0
      exact ⟨⟨_, rfl⟩, .inl ⟨_, HA.out, hJs⟩⟩

theorem signs_seq (s : ByteArray) (hs : s.size ≤ 1048576) (w : World) (Bs n₀ : Nat) (hB : Bs < n₀) (hn₀ : n₀ ≤ w.heap.size) (hc : w.cell? ⟨Bs, 0, none⟩ = some (.string s)) :
    SeqOf n₀ w 83 #[.pointer (some ⟨Bs, 0, none⟩)] s.data.toList := fun n h3 l J Jx W hW _ _ hY h0 =>
  signs1_in n (by omega) l Bs n₀ s hs hB J Jx (fun pre x W1 hj hp => hY pre x W1 hj (prefix_len hp)) W ((hW.cell (p := ⟨Bs, 0, none⟩) (by show Bs < w.heap.size; omega)).trans hc) h0

/-- A contract with two outcomes of a round gives the one for loops that never leave. -/
theorem seqO_of {n₀ : Nat} {w : World} {gf : Nat} {lb : Array Value} {xs : List UInt8}
    (h : ∀ n, 3 ≤ n → ∀ (l : Nat) (J Jx : List UInt8 → World → Prop) (W : World), Below w.heap.size w W →
      (∀ pre x W1, J pre W1 → pre ++ [x] <+: xs → YieldAt Fence.wide (n - 1) Tryd.prog l (encB x) W1 fun e W' =>
        (e = .returned (.bool true) ∧ J (pre ++ [x]) W' ∧ Below n₀ W1 W') ∨ (e = .returned (.bool false) ∧ Jx (pre ++ [x]) W')) →
      J [] W → CallsIn Fence.wide n Tryd.prog gf (#[.func (.yield l) #[] #[]] ++ lb) W fun e W' => (∃ v, e = .returned v) ∧ ((∃ ys, ys = xs ∧ J ys W') ∨ (∃ pre, pre <+: xs ∧ Jx pre W'))) : SeqO n₀ w gf lb xs :=
  fun n h8 l B J W hW _ _ _ hY h0 => by
    refine (h n (by omega) l J (fun _ _ => False) W hW (fun pre x W1 hj hl => (hY pre x W1 hj hl).mono (fun _ _ ⟨a, b, c⟩ => .inl ⟨a, b, c.1⟩)) h0).mono ?_
    rintro e W' ⟨hv, ⟨ys, rfl, hJ'⟩ | ⟨_, _, hf⟩⟩
    · exact ⟨hv, hJ'⟩
    · exact hf.elim

theorem signs_seqO (s : ByteArray) (hs : s.size ≤ 1048576) (w : World) (Bs n₀ : Nat) (hB : Bs < n₀) (hn₀ : n₀ ≤ w.heap.size) (hc : w.cell? ⟨Bs, 0, none⟩ = some (.string s)) :
    SeqO n₀ w 83 #[.pointer (some ⟨Bs, 0, none⟩)] s.data.toList :=
  seqO_of fun n h3 l J Jx W hW hY h0 => signs1_in n (by omega) l Bs n₀ s hs hB J Jx hY W ((hW.cell (p := ⟨Bs, 0, none⟩) (by show Bs < w.heap.size; omega)).trans hc) h0

end Go.Proofs.YtdhmicpoigoleabDoor

/- The contract of the program's 'reduced': the letters of all parts, one part behind the other, reduced. -/

namespace Go.Proofs.YtdhmicpoigoleabDoor
open Go.RowKit Go.Shelf

attribute [local go_sem] Oper.semAt_some

structure Part where
  gf : Nat
  lb : Array Value
  xs : List UInt8

def cat (ps : List Part) : List UInt8 := (ps.map Part.xs).flatten
theorem cat_take_succ (ps : List Part) (k : Nat) (h : k < ps.length) : cat (ps.take (k + 1)) = cat (ps.take k) ++ ps[k].xs := by
  unfold cat; rw [List.take_succ_eq_append_getElem h]; simp only [List.map_append, List.flatten_append, List.map_cons, List.map_nil, List.flatten_cons, List.flatten_nil, List.append_nil]

/-- The marks that loops over iterators leave among the deferred calls. -/
def mk (D : Nat) : Deferred := { target := .collected D, args := #[] }
def Marked (base : Nat) (Ds : List Nat) (W : World) : Prop := Ds.Nodup ∧ ∀ D ∈ Ds, base ≤ D ∧ W.heap[D]? = some (.deferred (some []))

theorem leaves_marks {F : Fence} {n : Nat} {P : Program} {fn : Func} {tmps : Array Value} {R : Ending → World → Prop} {base : Nat} (Q : World → Prop)
    (hQ : ∀ W D o', Q W → base ≤ D → W.heap[D]? = some (.deferred (some [])) → Q (W.putObj D o')) (hend : ∀ W, Q W → LeavesIn F n P fn tmps R [] .returning W) :
    ∀ (Ds : List Nat) (W : World), Q W → Marked base Ds W → LeavesInM F n P fn tmps R (Ds.map mk) .returning W
  | [], W, hq, _ => hend W hq
  | D :: Ds, W, hq, hm => by
    obtain ⟨hnd, hall⟩ := hm
    obtain ⟨hb, hK⟩ := hall D (by simp)
    rw [List.nodup_cons] at hnd
    refine ⟨by simp, .inl ⟨D, _, rfl, run_takeDeferred hK, leaves_marks Q hQ hend Ds _ (hQ _ _ _ hq hb hK) ⟨hnd.2, fun E hE => ?_⟩⟩⟩
    obtain ⟨h1, h2⟩ := hall E (by simp [hE])
    exact ⟨h1, (World.putObj_heap_other (fun e => hnd.1 (by rw [← e]; exact hE))).trans h2⟩

end Go.Proofs.YtdhmicpoigoleabDoor

/- The contracts of the program's 'text', 'told', 'reduceText' and 'wordOf'. -/

namespace Go.Proofs.YtdhmicpoigoleabDoor
open Go.RowKit Go.Shelf

attribute [local go_sem] Oper.semAt_some

/-- The cells from an address on are the letters l. -/
def Letters (g off : Nat) (l : List UInt8) (w : World) : Prop := g < w.heap.size ∧ ∀ j (h : j < l.length), w.cell? ⟨g, off + j, none⟩ = some (.int .u8 (l[j].toNat : Int))

theorem letters_of_owns {base g cap n : Nat} {e : TypeId} {l : List UInt8} {w : World} (hown : w.ownsRow base e 1 (.slice (some ⟨g, 0, none⟩) n cap) n (bytesV l)) : Letters g 0 l w :=
  ⟨(ownsRow_cap hown).2.2.2, fun j h => by
    have := hown.cells rfl j (.int .u8 (l[j].toNat : Int)) (by simp [bytesV, h])
    rw [show (⟨g, 0 + j, none⟩ : Addr) = (⟨g, 0, none⟩ : Addr).add j by simp [Addr.add]]
    exact this⟩
theorem Letters.below {g off : Nat} {l : List UInt8} {w w' : World} (h : Letters g off l w) (hb : Below w.heap.size w w') : Letters g off l w' :=
  ⟨Nat.lt_of_lt_of_le h.1 hb.size, fun j hj => (hb.cell (p := ⟨g, off + j, none⟩) h.1).trans (h.2 j hj)⟩

end Go.Proofs.YtdhmicpoigoleabDoor

/- The iterators over the letters of a word, forwards and backwards, and over those of its inverse. -/

namespace Go.Proofs.YtdhmicpoigoleabDoor
open Go.RowKit Go.Shelf

attribute [local go_sem] Oper.semAt_some

/-- The slice value sv is a word with the letters l. -/
def IsWord (n₀ : Nat) (w : World) (sv : Value) (l : List UInt8) : Prop :=
  ∃ g off cap, sv = .slice (some ⟨g, off, none⟩) l.length cap ∧ g < n₀ ∧ l.length ≤ 100000 ∧ ∀ j (h : j < l.length), w.cell? ⟨g, off + j, none⟩ = some (.int .u8 (l[j].toNat : Int))
theorem IsWord.below {n₀ : Nat} {w w' : World} {sv : Value} {l : List UInt8} (h : IsWord n₀ w sv l) (hb : Below n₀ w w') : IsWord n₀ w' sv l := by
  obtain ⟨g, off, cap, rfl, hg, hl, hc⟩ := h
  exact ⟨g, off, cap, rfl, hg, hl, fun j hj => (hb.cell (p := ⟨g, off + j, none⟩) hg).trans (hc j hj)⟩
theorem IsWord.mono {n₀ n₁ : Nat} {w : World} {sv : Value} {l : List UInt8} (h : IsWord n₀ w sv l) (hb : n₀ ≤ n₁) : IsWord n₁ w sv l := by
  obtain ⟨g, off, cap, rfl, hg, hl, hc⟩ := h
  exact ⟨g, off, cap, rfl, by omega, hl, hc⟩

abbrev encI (x : Nat × UInt8) : Array Value := #[.int .i64 (x.1 : Int), .int .u8 (x.2.toNat : Int)]
/-- What slices.Backward gives when the letters from the place k on have come. -/
def bk (L : List UInt8) (k : Nat) : List (Nat × UInt8) := ((L.zipIdx.drop k).map fun p => (p.2, p.1)).reverse
theorem bk_step (L : List UInt8) (k : Nat) (h : k < L.length) : bk L k = bk L (k + 1) ++ [(k, L[k])] := by
  unfold bk
  rw [List.drop_eq_getElem_cons (by simpa using h)]
  simp
theorem bk_prefix (L : List UInt8) (k : Nat) : bk L k <+: bk L 0 := by
  unfold bk
  rw [List.reverse_prefix, List.drop_zero]
  exact (List.drop_suffix k _).map _
theorem bk_len (L : List UInt8) (k : Nat) : (bk L k).length = L.length - k := by simp [bk]
theorem bk_snd (L : List UInt8) (f : UInt8 → UInt8) : (bk L 0).map (fun p => f p.2) = L.reverse.map f := by
  unfold bk
  rw [List.drop_zero, List.map_reverse, List.map_map, List.map_reverse]
  congr 1
  have : L.map f = L.zipIdx.map (f ∘ Prod.fst) := by rw [← List.map_map]; simp
  rw [this]; rfl

end Go.Proofs.YtdhmicpoigoleabDoor

/- The iterator over the letters of a word's inverse: a loop over slices.Backward that hands each letter's inverse on. -/

namespace Go.Proofs.YtdhmicpoigoleabDoor
open Go.RowKit Go.Shelf

attribute [local go_sem] Oper.semAt_some

abbrev YT : TypeId := 136
end Go.Proofs.YtdhmicpoigoleabDoor

/- The contracts of the program's 'wordOf', 'WordIn' and 'WordReduce'. -/

namespace Go.Proofs.YtdhmicpoigoleabDoor
open Go.RowKit Go.Shelf

end Go.Proofs.YtdhmicpoigoleabDoor

/- Plain lists of bytes, second part: words without cancellation; inverses of words; reducing in parts. -/

namespace Go.Proofs.YtdhmicpoigoleabDoor

/-- No letter stands beside its inverse. -/
def noC (l : List UInt8) : Prop := ∀ p x y q, l = p ++ x :: y :: q → x ≠ turnB y

theorem noC_nil : noC [] := fun p x y q h => by simp at h
theorem noC_one (x : UInt8) : noC [x] := fun p a b q h => by
  have := congrArg List.length h
  simp at this
  omega
theorem noC_cons (x y : UInt8) (r : List UInt8) : noC (x :: y :: r) ↔ x ≠ turnB y ∧ noC (y :: r) := by
  constructor
  · exact fun h => ⟨h [] x y r rfl, fun p a b q e => h (x :: p) a b q (by rw [e]; rfl)⟩
  · rintro ⟨h1, h2⟩ p a b q e
    cases p with
    | nil =>
      simp at e
      obtain ⟨rfl, rfl, rfl⟩ := e
      exact h1
    | cons c p =>
      simp at e
      exact h2 p a b q e.2
theorem noC_left {a b : List UInt8} (h : noC (a ++ b)) : noC a := fun p x y q e => h p x y (q ++ b) (by rw [e]; simp)
theorem noC_snoc (l : List UInt8) (c : UInt8) (h : noC l) (hc : l.getLast? ≠ some (turnB c)) : noC (l ++ [c]) := by
  intro p x y q e
  rcases (show q = [] ∨ ∃ q' z, q = q' ++ [z] by
    cases q with
    | nil => exact .inl rfl
    | cons a q => exact .inr (last_split (a :: q) (by simp))) with rfl | ⟨q, z, rfl⟩
  · have e2 : l ++ [c] = (p ++ [x]) ++ [y] := by rw [e]; simp
    obtain ⟨e3, e4⟩ := List.append_inj' e2 rfl
    have e5 : c = y := by simpa using e4
    subst e5
    intro hx
    exact hc (by rw [e3, hx]; simp)
  · have e2 : l ++ [c] = (p ++ x :: y :: q) ++ [z] := by rw [e]; simp
    obtain ⟨e3, _⟩ := List.append_inj' e2 rfl
    exact h p x y q e3
theorem noC_step (l : List UInt8) (c : UInt8) (h : noC l) : noC (redStep l c) := by
  unfold redStep
  split
  · cases l with
    | nil => exact noC_nil
    | cons a l =>
      obtain ⟨p, x, hp⟩ := last_split (a :: l) (by simp)
      rw [hp] at h ⊢
      rw [List.dropLast_concat]; exact noC_left h
  · rename_i hc; exact noC_snoc l c h hc
theorem noC_red : ∀ (s l : List UInt8), noC l → noC (redL l s)
  | [], _, h => h
  | c :: s, l, h => noC_red s (redStep l c) (noC_step l c h)
theorem red_of_noC : ∀ (s l : List UInt8), noC (l ++ s) → redL l s = l ++ s
  | [], l, _ => by simp [redL]
  | c :: s, l, h => by
    have h1 : l.getLast? ≠ some (turnB c) := fun e => by
      obtain ⟨p, x, rfl⟩ := last_split l (by cases l with | nil => simp at e | cons a l => simp)
      have e2 : x = turnB c := by simpa using e
      exact h p x c s (by simp) e2
    have h2 : redStep l c = l ++ [c] := by unfold redStep; rw [if_neg h1]
    show redL (redStep l c) s = _
    rw [h2, red_of_noC s (l ++ [c]) (by simpa using h)]
    simp
theorem red_iff (s : List UInt8) : redL [] s = s ↔ noC s :=
  ⟨fun h => by rw [← h]; exact noC_red s [] noC_nil, fun h => by have := red_of_noC s [] (by simpa using h); simpa using this⟩
theorem red_red (s : List UInt8) : redL [] (redL [] s) = redL [] s := (red_iff _).2 (noC_red s [] noC_nil)
theorem red_append (a b : List UInt8) : redL [] (redL [] a ++ b) = redL [] (a ++ b) := by rw [redL_append, redL_append, red_red]

theorem turn_tab : ∀ n : Fin 256, letB (UInt8.ofNat n.val) = true → turnB (turnB (UInt8.ofNat n.val)) = UInt8.ofNat n.val ∧ letB (turnB (UInt8.ofNat n.val)) = true := by decide +kernel
theorem turn_turn (c : UInt8) (h : letB c = true) : turnB (turnB c) = c ∧ letB (turnB c) = true := by
  have := turn_tab ⟨c.toNat, c.toNat_lt⟩
  simp only [UInt8.ofNat_toNat] at this
  exact this h
theorem backL_append (a b : List UInt8) : backL (a ++ b) = backL b ++ backL a := by simp [backL]
theorem letL_back (l : List UInt8) (h : letL l = true) : letL (backL l) = true := List.all_eq_true.2 fun c hc => by
  simp only [backL, List.mem_map, List.mem_reverse] at hc
  obtain ⟨d, hd, rfl⟩ := hc
  exact (turn_turn d (List.all_eq_true.1 h d hd)).2
theorem back_back : ∀ (l : List UInt8), letL l = true → backL (backL l) = l
  | [], _ => rfl
  | c :: l, h => by
    rw [letL_cons, Bool.and_eq_true] at h
    have e : backL (c :: l) = backL l ++ [turnB c] := by simp [backL]
    rw [e, backL_append, back_back l h.2]
    show [turnB (turnB c)] ++ l = _
    rw [(turn_turn c h.1).1]; rfl
theorem noC_back (l : List UInt8) (hl : letL l = true) (h : noC l) : noC (backL l) := by
  intro p x y q e
  have e2 : l = backL q ++ turnB y :: turnB x :: backL p := by
    have := congrArg backL e
    rw [back_back l hl, show p ++ x :: y :: q = p ++ ([x, y] ++ q) by simp, backL_append, backL_append] at this
    rw [this]
    simp [backL]
  have hx : letB x = true := by
    have := letL_back l hl
    exact List.all_eq_true.1 this x (by rw [e]; simp)
  have h2 := h _ _ _ _ e2
  rw [(turn_turn x hx).1] at h2
  exact fun e3 => h2 e3.symm
theorem red_back (l : List UInt8) (hl : letL l = true) (h : redL [] l = l) : redL [] (backL l) = backL l := (red_iff _).2 (noC_back l hl ((red_iff l).1 h))
/-- The program's own inverse of a list of letters. -/
theorem inv_back (l : List UInt8) (h : letL l = true) : l.reverse.map invB = backL l := by
  unfold backL
  apply List.map_congr_left
  intro c hc
  exact invB_let c (List.all_eq_true.1 h c (List.mem_reverse.1 hc))
theorem redX_back (l : List UInt8) (hl : letL l = true) (h : redL [] l = l) : redX [] (l.reverse.map invB) = backL l := by
  rw [inv_back l hl, redX_eq _ _ (letL_back l hl), red_back l hl h]

/-- The place of a letter's generator; the letter's sign. -/
def idxB (c : UInt8) : Nat := if 97 ≤ c.toNat then c.toNat - 97 else c.toNat - 65
def sgnB (c : UInt8) : Int := if 97 ≤ c.toNat then 1 else -1
def sumsStep (z : List Int) (c : UInt8) : List Int := z.set (idxB c) (z[idxB c]?.getD 0 + sgnB c)
def sumsL (l : List UInt8) : List Int := l.foldl sumsStep [0, 0, 0, 0]
theorem sumsL_snoc (l : List UInt8) (c : UInt8) : sumsL (l ++ [c]) = sumsStep (sumsL l) c := by simp [sumsL]
theorem idxB_lt (c : UInt8) (h : letB c = true) : idxB c < 4 := by
  have := (letB_iff c).1 h
  unfold idxB; split <;> omega
theorem sumsL_inv : ∀ (l : List UInt8), letL l = true → (sumsL l).length = 4 ∧ ∀ z ∈ sumsL l, -(l.length : Int) ≤ z ∧ z ≤ l.length := by
  have key : ∀ (n : Nat) (l : List UInt8), l.length = n → letL l = true → (sumsL l).length = 4 ∧ ∀ z ∈ sumsL l, -(l.length : Int) ≤ z ∧ z ≤ l.length := by
    intro n
    induction n with
    | zero =>
      intro l hl _
      obtain rfl := List.length_eq_zero_iff.1 hl
      refine ⟨rfl, fun z hz => ?_⟩
      simp [sumsL] at hz
      subst hz; simp
    | succ n ih =>
      intro l hl hlet
      obtain ⟨p, c, rfl⟩ := last_split l (by omega)
      rw [letL_append, Bool.and_eq_true] at hlet
      have hp : p.length = n := by simp at hl; omega
      obtain ⟨h1, h2⟩ := ih p hp hlet.1
      rw [sumsL_snoc]
      refine ⟨by unfold sumsStep; simpa using h1, fun z hz => ?_⟩
      have hs : -1 ≤ sgnB c ∧ sgnB c ≤ 1 := by unfold sgnB; split <;> omega
      rw [List.length_append, List.length_singleton]
      unfold sumsStep at hz
      rcases List.mem_or_eq_of_mem_set hz with hz | rfl
      · have := h2 z hz; omega
      · have h3 : -(p.length : Int) ≤ (sumsL p)[idxB c]?.getD 0 ∧ (sumsL p)[idxB c]?.getD 0 ≤ p.length := by
          cases e : (sumsL p)[idxB c]? with
          | none => simp
          | some v => exact h2 v (List.mem_of_getElem? e)
        omega
  exact fun l h => key l.length l rfl h

/-- Letters as often behind themselves as told. -/
def repL (n : Nat) (l : List UInt8) : List UInt8 := (List.replicate n l).flatten
theorem repL_add (a b : Nat) (l : List UInt8) : repL a l ++ repL b l = repL (a + b) l := by
  unfold repL; rw [← List.flatten_append, List.replicate_append_replicate]
theorem repL_zero (l : List UInt8) : repL 0 l = [] := rfl
theorem repL_one (l : List UInt8) : repL 1 l = l := by simp [repL]
theorem repL_len (n : Nat) (l : List UInt8) : (repL n l).length = n * l.length := by
  induction n with
  | zero => simp [repL]
  | succ n ih => rw [← repL_add, List.length_append, ih, repL_one, Nat.succ_mul]
theorem letL_rep (n : Nat) (l : List UInt8) (h : letL l = true) : letL (repL n l) = true := by
  induction n with
  | zero => rfl
  | succ n ih => rw [← repL_add, letL_append, ih, repL_one, h]; rfl
/-- The letters of a power. -/
def powL (n : Int) (l : List UInt8) : List UInt8 := repL n.natAbs (if n < 0 then backL l else l)

end Go.Proofs.YtdhmicpoigoleabDoor

/- The contract of the program's 'WordTurned'. -/

namespace Go.Proofs.YtdhmicpoigoleabDoor
open Go.RowKit Go.Shelf

theorem isWord_of_owns {base g cap n n₀ : Nat} {e : TypeId} {l : List UInt8} {w : World} (hl : l.length = n) (hn : n ≤ 100000) (hown : w.ownsRow base e 1 (.slice (some ⟨g, 0, none⟩) n cap) n (bytesV l)) (hg : w.heap.size ≤ n₀) :
    IsWord n₀ w (.slice (some ⟨g, 0, none⟩) n cap) l := by
  subst hl
  obtain ⟨h1, h2⟩ := letters_of_owns hown
  exact ⟨g, 0, cap, rfl, by omega, hn, h2⟩

abbrev IT : TypeId := 129

end Go.Proofs.YtdhmicpoigoleabDoor

/- The contracts of the program's 'wordsOf' and 'letters'. -/

namespace Go.Proofs.YtdhmicpoigoleabDoor
open Go.RowKit Go.Shelf

/-- The slice value v is a word with the letters l, in a block from lo on. -/
def WordAt (lo : Nat) (w : World) (v : Value) (l : List UInt8) : Prop :=
  ∃ g cap, v = .slice (some ⟨g, 0, none⟩) l.length cap ∧ lo ≤ g ∧ g < w.heap.size ∧ l.length ≤ 60 ∧ ∀ j (h : j < l.length), w.cell? ⟨g, j, none⟩ = some (.int .u8 (l[j].toNat : Int))
theorem WordAt.below {lo : Nat} {w w' : World} {v : Value} {l : List UInt8} (h : WordAt lo w v l) (hb : Below w.heap.size w w') : WordAt lo w' v l := by
  obtain ⟨g, cap, rfl, h1, h2, h3, h4⟩ := h
  exact ⟨g, cap, rfl, h1, Nat.lt_of_lt_of_le h2 hb.size, h3, fun j hj => (hb.cell (p := ⟨g, j, none⟩) h2).trans (h4 j hj)⟩
theorem WordAt.setCell {lo : Nat} {w : World} {v : Value} {l : List UInt8} (h : WordAt lo w v l) {a : Addr} (ha : a.block < lo) (u : Value) : WordAt lo (w.setCell a u) v l := by
  obtain ⟨g, cap, rfl, h1, h2, h3, h4⟩ := h
  exact ⟨g, cap, rfl, h1, Nat.lt_of_lt_of_le h2 (KeepsWalks.setCell w a u).size, h3, fun j hj => (World.cell?_of_block (a := ⟨g, j, none⟩) (Below.heap_setCell w a u g (by omega))).trans (h4 j hj)⟩
theorem WordAt.isWord {lo : Nat} {w : World} {v : Value} {l : List UInt8} (h : WordAt lo w v l) : IsWord w.heap.size w v l := by
  obtain ⟨g, cap, rfl, h1, h2, h3, h4⟩ := h
  exact ⟨g, 0, cap, rfl, h2, by omega, fun j hj => by rw [Nat.zero_add]; exact h4 j hj⟩
theorem WordAt.slice {lo : Nat} {w : World} {v : Value} {l : List UInt8} (h : WordAt lo w v l) : ∃ g cap, v = .slice (some ⟨g, 0, none⟩) l.length cap := by
  obtain ⟨g, cap, rfl, _⟩ := h; exact ⟨g, cap, rfl⟩

end Go.Proofs.YtdhmicpoigoleabDoor

/- The contracts of the program's 'termWords', 'isZero', 'inRange'. -/

namespace Go.Proofs.YtdhmicpoigoleabDoor
open Go.RowKit Go.Shelf

/-- Is a term as SumOf wants it? -/
def termB (t : Tm) : Bool := wordB t.s.data.toList && inR (-1000000) 1000000 t.c
def twB (ts : List Tm) : Bool := decide (ts.length ≤ 300) && ts.all termB
theorem twB_len {ts : List Tm} (h : ¬ ts.length ≤ 300) : twB ts = false := by unfold twB; rw [decide_eq_false h, Bool.false_and]
theorem twB_at {ts : List Tm} {k : Nat} (hk : k < ts.length) (h : termB ts[k] = false) : twB ts = false := by
  unfold twB
  rw [Bool.and_eq_false_iff]
  exact .inr (List.all_eq_false.2 ⟨_, List.getElem_mem hk, by simp [h]⟩)
theorem twB_of {ts : List Tm} (h : ts.length ≤ 300) (ha : ∀ j (hj : j < ts.length), termB ts[j] = true) : twB ts = true := by
  unfold twB
  rw [decide_eq_true h, Bool.true_and]
  exact List.all_eq_true.2 fun t ht => by
    obtain ⟨j, hj, rfl⟩ := List.getElem_of_mem ht
    exact ha j hj

theorem inRange_is (t : Tm) (r : Bool) (w : World) (h : inR (-1000000) 1000000 t.c = r) :
    Calls Tryd.prog 57 #[.agg #[.int .i64 t.c, .string t.s]] w fun e w' => e = .returned (.bool r) ∧ Below w.heap.size w w' := by
  subst h
  obtain ⟨c, s⟩ := t
  by_cases h : -1000000 ≤ c
  · go_enter Tryd.func57, Tryd.ntmps57
    go_wp2
    go_ret
    exact ⟨ret_bool (by unfold inR; rw [decide_eq_true h]; simp), (Below.refl _ _).alloc (Nat.le_refl _) _⟩
  · go_enter Tryd.func57, Tryd.ntmps57
    go_wp2
    go_ret
    exact ⟨ret_bool (by unfold inR; rw [decide_eq_false (by omega : ¬ -1000000 ≤ c)]; rfl), (Below.refl _ _).alloc (Nat.le_refl _) _⟩

theorem isZero_any (t : Tm) (w : World) :
    Calls Tryd.prog 58 #[.agg #[.int .i64 t.c, .string t.s]] w fun e w' => e = .returned (.bool (t.c == 0)) ∧ Grew w w' := by
  obtain ⟨c, s⟩ := t
  go_enter Tryd.func58, Tryd.ntmps58
  go_wp2
  go_ret
  exact ⟨rfl, (Grew.refl w).alloc _⟩

end Go.Proofs.YtdhmicpoigoleabDoor

/- The contracts of slices.IndexFunc and slices.ContainsFunc at 'isZero'. -/

namespace Go.Proofs.YtdhmicpoigoleabDoor
open Go.RowKit Go.Shelf

abbrev ZF : Value := .func (.func 58) #[] #[]
/-- r is the first place of a coefficient 0, or -1. -/
def FirstZero (ts : List Tm) (r : Int) : Prop :=
  (r = -1 ∧ ∀ j (h : j < ts.length), ts[j].c ≠ 0) ∨ ∃ (i : Nat) (h : i < ts.length), r = i ∧ ts[i].c = 0 ∧ ∀ j (h : j < i), ts[j].c ≠ 0

def hasZero (ts : List Tm) : Bool := ts.any fun t => t.c == 0
theorem hasZero_first {ts : List Tm} {r : Int} (h : FirstZero ts r) : hasZero ts = decide (0 ≤ r) := by
  unfold hasZero
  rcases h with ⟨rfl, h⟩ | ⟨i, hi, rfl, h, _⟩
  · rw [List.any_eq_false.2]
    · rfl
    · intro t ht
      obtain ⟨j, hj, rfl⟩ := List.getElem_of_mem ht
      simpa using h j hj
  · rw [decide_eq_true (by omega : (0 : Int) ≤ i)]
    exact List.any_eq_true.2 ⟨_, List.getElem_mem hi, by simpa using h⟩

/-- A list that is in order. -/
def ascB (ts : List Tm) : Bool := (List.range ts.length).all fun j => decide (j = 0) || lessW (ts.getD (j - 1) default).s (ts.getD j default).s

end Go.Proofs.YtdhmicpoigoleabDoor

/- The contract of the program's 'ascends'. -/

namespace Go.Proofs.YtdhmicpoigoleabDoor
open Go.RowKit Go.Shelf

theorem bytes_cmp : ∀ a b : List UInt8, Op.bytesLess a b = decide (Lib.compareBytes a b < 0)
  | [], [] => rfl
  | [], _ :: _ => rfl
  | _ :: _, [] => rfl
  | a :: x, b :: y => by
    unfold Op.bytesLess Lib.compareBytes
    by_cases h : a < b
    · rw [if_pos h]; simp [h]
    · rw [if_neg h]
      by_cases h2 : b < a
      · rw [if_pos h2]
        have : (a == b) = false := by
          apply beq_eq_false_iff_ne.2
          rintro rfl
          exact h h2
        simp [h, this]
      · rw [if_neg h2]
        have : a = b := by
          apply UInt8.toNat_inj.1
          rw [UInt8.lt_iff_toNat_lt] at h h2
          omega
        subst this
        simp [h, bytes_cmp x y]
theorem lessW_cmp (a b : ByteArray) : lessW a b = decide (cmpW a b < 0) := by
  unfold lessW cmpW orInt Lib.compareInt
  by_cases h : a.size = b.size
  · have e1 : ¬ ((a.size : Int) < (b.size : Int)) := by omega
    have e2 : ¬ ((a.size : Int) > (b.size : Int)) := by omega
    rw [if_pos h]
    simp only [if_neg e1, if_neg e2, if_true]
    rw [← bytes_cmp, ByteArray.toList_eq, ByteArray.toList_eq]
  · rw [if_neg h]
    by_cases h2 : a.size < b.size
    · have e1 : ((a.size : Int) < (b.size : Int)) := by omega
      simp only [if_pos e1]; simp [h2]
    · have e1 : ¬ ((a.size : Int) < (b.size : Int)) := by omega
      have e2 : ((a.size : Int) > (b.size : Int)) := by omega
      simp only [if_neg e1, if_pos e2]; simp [h2]

theorem ascB_false {ts : List Tm} {k : Nat} (hk : k < ts.length) (hk0 : 0 < k) (h : lessW (ts.getD (k - 1) default).s (ts.getD k default).s = false) : ascB ts = false := by
  unfold ascB
  refine List.all_eq_false.2 ⟨k, List.mem_range.2 hk, ?_⟩
  have h0 : decide (k = 0) = false := decide_eq_false (by omega)
  rw [h, h0]; decide
theorem ascB_true {ts : List Tm} (h : ∀ k, k < ts.length → 0 < k → lessW (ts.getD (k - 1) default).s (ts.getD k default).s = true) : ascB ts = true := by
  unfold ascB
  refine List.all_eq_true.2 fun k hk => ?_
  by_cases h0 : k = 0
  · rw [decide_eq_true h0, Bool.true_or]
  · rw [h k (List.mem_range.1 hk) (by omega), Bool.or_true]

set_option maxRecDepth 100000 in
set_option maxHeartbeats 2000000 in
theorem ascends_any (bs : Nat) (a : Option Addr) (cap n : Nat) (ts : List Tm) (w : World) (hs : IsTerms w a n ts) (hb : bs < w.heap.size) (h0 : w.cell? ⟨bs, 0, none⟩ = some (.slice a n cap)) (h1 : w.cell? ⟨bs, 1, none⟩ = some (.func (.func 33) #[] #[])) :
    Calls Tryd.prog 41 #[.pointer (some ⟨bs, 0, none⟩)] w fun e w' => e = .returned (.bool (ascB ts)) ∧ Below w.heap.size w w' := by
  have hm := hs.max
  have HN := Lib.hid hs.len
  have HS := Lib.hid hs
  have hmx : Tryd.prog.follows .mixedOrders = true := by kernel_rfl
  clear hs
  unfold maxLen at hm
  go_enter Tryd.func41, Tryd.ntmps41
  go_wp2
  go_loopw [3] (fun i wr => ∃ k : Nat, 1 ≤ k ∧ i = .int .i64 k ∧ Hid (∀ j, 0 < j → j < k → j < ts.length → lessW (ts.getD (j - 1) default).s (ts.getD j default).s = true) ∧ Below w.heap.size w wr) (fun i _ => n - (intOf i).toNat)
  case atStart => exact ⟨1, by omega, rfl, Lib.hid (fun j _ _ _ => by omega), Below.refl _ _⟩
  case round =>
    obtain ⟨k, hk, rfl, HG, hB⟩ := hrel
    have r0 : wr.cell? ⟨bs, 0, none⟩ = some (.slice a n cap) := (hB.cell (p := ⟨bs, 0, none⟩) hb).trans h0
    have r1 : wr.cell? ⟨bs, 1, none⟩ = some (.func (.func 33) #[] #[]) := (hB.cell (p := ⟨bs, 1, none⟩) hb).trans h1
    have hbr := Nat.lt_of_lt_of_le hb hB.size
    by_cases hlt : k < n
    · have hkz : k < ts.length := by rw [HN.out]; exact hlt
      obtain ⟨x, rfl, hx⟩ := HS.out.at_ (by omega)
      obtain ⟨j, hj⟩ : ∃ j, k - 1 = j := ⟨_, rfl⟩
      have hjn : j < n := by omega
      have hjz : j < ts.length := by omega
      obtain ⟨t, ht⟩ : ∃ t, ts[k] = t := ⟨_, rfl⟩
      obtain ⟨p, hp⟩ : ∃ p, ts[j] = p := ⟨_, rfl⟩
      have hxw := hx.below hB
      have c := hxw.2 k hkz
      have d := hxw.2 j hjz
      have hbx := hxw.1
      rw [ht, addr_next] at c
      rw [hp, addr_next] at d
      have hwr : IntKind.i64.wrap ((k : Int) - 1) = (j : Int) := by rw [IntWalk.i64_in _ (by omega)]; omega
      have v0 := BelowBy.cell (w := wr) (a := ⟨bs, 0, none⟩) hbr r0
      have v1 := BelowBy.cell (w := wr) (a := ⟨bs, 1, none⟩) hbr r1
      have v2 := BelowBy.cell (w := wr) (by rw [addr_add_block]; exact hbx) c.1
      have v3 := BelowBy.cell (w := wr) (by show (x.add (k * 2)).block < _; rw [addr_add_block]; exact hbx) c.2
      have v4 := BelowBy.cell (w := wr) (by rw [addr_add_block]; exact hbx) d.1
      have v5 := BelowBy.cell (w := wr) (by show (x.add (j * 2)).block < _; rw [addr_add_block]; exact hbx) d.2
      have HT : Hid (ts.getD k default = t) := Lib.hid (by rw [List.getD_eq_getElem?_getD, List.getElem?_eq_getElem hkz, ht]; rfl)
      have HP : Hid (ts.getD (k - 1) default = p) := Lib.hid (by rw [hj, List.getD_eq_getElem?_getD, List.getElem?_eq_getElem hjz, hp]; rfl)
      obtain ⟨v, hv⟩ : ∃ v, cmpW p.s t.s = v := ⟨_, rfl⟩
      have HC : Hid (∀ W : World, Calls Tryd.prog 33 #[.agg #[.int .i64 p.c, .string p.s], .agg #[.int .i64 t.c, .string t.s]] W fun e w' => e = .returned (.int .i64 v) ∧ Below W.heap.size W w') := Lib.hid (fun W => by
        rw [← hv]
        exact (compareTerms_any p t W).mono fun _ _ ⟨h1, h2⟩ => ⟨h1, h2.below⟩)
      have HL : Hid (lessW p.s t.s = decide (v < 0)) := Lib.hid (by rw [lessW_cmp, hv])
      clear hj ht hp c d hx hxw hbx hv
      by_cases hneg : v < 0
      · have hd : decide (0 ≤ v) = false := by simp; omega
        have HNg := Lib.hid hneg
        clear hneg
        go_wp2
        refine wp_region_below hmx (by kernel_rfl) ?_
        repeat (((with_reducible refine wpQuiet_step (fun K hK => ?_)); go_simp; first | ((with_reducible refine hK _ ?_); clear hK K) | (refine (if_neg (by decide)).mpr ?_; (with_reducible refine hK _ ?_); clear hK K) | (apply Exists.intro; (with_reducible refine ⟨fun _ => ?_, hK _ ?_⟩); (go_at_call 33; exact Calls.bel (HC.out _)); clear hK K)))
        with_reducible refine wpQuiet_nil ?_
        rintro W ⟨⟨_, hW⟩, rfl⟩
        clear v0 v1 v2 v3 v4 v5 hwr
        go_wp2
        go_roundw
        case rel =>
          refine ⟨k + 1, by omega, by go_num, Lib.hid ?_, hB.trans (hW.mono hB.size)⟩
          intro i hi hik hiz
          by_cases e : i = k
          · subst e; rw [HT.out, HP.out, HL.out]; exact decide_eq_true HNg.out
          · exact HG.out i hi (by omega) hiz
        case measure => simp [intOf]; omega
      · have hd : decide (0 ≤ v) = true := by simp; omega
        have HNg := Lib.hid hneg
        clear hneg
        go_wp2
        refine wp_region_below hmx (by kernel_rfl) ?_
        repeat (((with_reducible refine wpQuiet_step (fun K hK => ?_)); go_simp; first | ((with_reducible refine hK _ ?_); clear hK K) | (refine (if_neg (by decide)).mpr ?_; (with_reducible refine hK _ ?_); clear hK K) | (apply Exists.intro; (with_reducible refine ⟨fun _ => ?_, hK _ ?_⟩); (go_at_call 33; exact Calls.bel (HC.out _)); clear hK K)))
        with_reducible refine wpQuiet_nil ?_
        rintro W ⟨⟨_, hW⟩, rfl⟩
        clear v0 v1 v2 v3 v4 v5 hwr
        go_wp2
        go_ret
        exact ⟨ret_bool (ascB_false hkz (by omega) (by rw [HT.out, HP.out, HL.out]; exact decide_eq_false (by have := HNg.out; omega))).symm, hB.trans (hW.mono hB.size)⟩
    · have hnk : n ≤ k := by omega
      go_wp2
      go_ret
      exact ⟨ret_bool (ascB_true fun j hj hj0 => HG.out j hj0 (by have := HN.out; omega) hj).symm, hB⟩

end Go.Proofs.YtdhmicpoigoleabDoor

/- Lists of terms in order, without equal words and without coefficients 0: there is just one such list to given sums of coefficients. -/

namespace Go.Proofs.YtdhmicpoigoleabDoor
open Go.RowKit

theorem bl_irrefl : ∀ a : List UInt8, Op.bytesLess a a = false
  | [] => rfl
  | c :: r => by unfold Op.bytesLess; simp [bl_irrefl r, UInt8.lt_irrefl]
theorem bl_trans : ∀ a b c : List UInt8, Op.bytesLess a b = true → Op.bytesLess b c = true → Op.bytesLess a c = true
  | _, [], _, h, _ => by unfold Op.bytesLess at h; cases h
  | _, _ :: _, [], _, h => by unfold Op.bytesLess at h; cases h
  | [], _ :: _, _ :: _, _, _ => rfl
  | x :: a, y :: b, z :: c, h1, h2 => by
    unfold Op.bytesLess at *
    simp only [Bool.or_eq_true, Bool.and_eq_true, decide_eq_true_eq, beq_iff_eq, UInt8.lt_iff_toNat_lt, ← UInt8.toNat_inj] at *
    rcases h1 with h1 | ⟨h1, h1'⟩
    · rcases h2 with h2 | ⟨h2, _⟩
      · exact .inl (by omega)
      · exact .inl (by omega)
    · rcases h2 with h2 | ⟨h2, h2'⟩
      · exact .inl (by omega)
      · exact .inr ⟨by omega, bl_trans a b c h1' h2'⟩
theorem bl_tri : ∀ a b : List UInt8, Op.bytesLess a b = false → Op.bytesLess b a = false → a = b
  | [], [], _, _ => rfl
  | [], _ :: _, h, _ => by unfold Op.bytesLess at h; cases h
  | _ :: _, [], _, h => by unfold Op.bytesLess at h; cases h
  | x :: a, y :: b, h1, h2 => by
    unfold Op.bytesLess at h1 h2
    simp only [Bool.or_eq_false_iff, Bool.and_eq_false_iff, decide_eq_false_iff_not, beq_eq_false_iff_ne, UInt8.lt_iff_toNat_lt, ne_eq, ← UInt8.toNat_inj] at h1 h2
    have e : x = y := UInt8.toNat_inj.1 (by omega)
    subst e
    have q1 : Op.bytesLess a b = false := by rcases h1.2 with h | h; exact absurd rfl h; exact h
    have q2 : Op.bytesLess b a = false := by rcases h2.2 with h | h; exact absurd rfl h; exact h
    rw [bl_tri a b q1 q2]

theorem lessW_irrefl (a : ByteArray) : lessW a a = false := by unfold lessW; rw [if_pos rfl]; exact bl_irrefl _
theorem lessW_trans {a b c : ByteArray} (h1 : lessW a b = true) (h2 : lessW b c = true) : lessW a c = true := by
  unfold lessW at *
  by_cases e1 : a.size = b.size <;> by_cases e2 : b.size = c.size
  · rw [if_pos e1] at h1; rw [if_pos e2] at h2; rw [if_pos (by omega)]; exact bl_trans _ _ _ h1 h2
  · rw [if_neg e2] at h2; simp only [decide_eq_true_eq] at h2; rw [if_neg (by omega)]; exact decide_eq_true (by omega)
  · rw [if_neg e1] at h1; simp only [decide_eq_true_eq] at h1; rw [if_neg (by omega)]; exact decide_eq_true (by omega)
  · rw [if_neg e1] at h1; rw [if_neg e2] at h2; simp only [decide_eq_true_eq] at h1 h2; rw [if_neg (by omega)]; exact decide_eq_true (by omega)
theorem bytes_ext2 {a b : ByteArray} (h : a.toList = b.toList) : a = b := by
  rw [ByteArray.toList_eq, ByteArray.toList_eq] at h
  have : a.data = b.data := Array.toList_inj.1 h
  cases a; cases b; simpa using this
theorem lessW_tri {a b : ByteArray} (h1 : lessW a b = false) (h2 : lessW b a = false) : a = b := by
  unfold lessW at *
  by_cases e : a.size = b.size
  · rw [if_pos e] at h1; rw [if_pos e.symm] at h2; exact bytes_ext2 (bl_tri _ _ h1 h2)
  · rw [if_neg e] at h1; rw [if_neg (fun h => e h.symm)] at h2; simp only [decide_eq_false_iff_not] at h1 h2; omega
theorem lessW_asymm {a b : ByteArray} (h : lessW a b = true) : lessW b a = false := by
  cases h2 : lessW b a with
  | false => rfl
  | true => have := lessW_trans h h2; rw [lessW_irrefl] at this; cases this
theorem lessW_ne {a b : ByteArray} (h : lessW a b = true) : a ≠ b := by rintro rfl; rw [lessW_irrefl] at h; cases h

/-- The sum of the coefficients of a word. -/
def coefAt (s : ByteArray) : List Tm → Int
  | [] => 0
  | t :: r => (if t.s = s then t.c else 0) + coefAt s r
theorem coefAt_append (s : ByteArray) (a b : List Tm) : coefAt s (a ++ b) = coefAt s a + coefAt s b := by
  induction a with
  | nil => simp [coefAt]
  | cons t r ih => rw [List.cons_append, coefAt, coefAt, ih]; omega
theorem coefAt_perm (s : ByteArray) {a b : List Tm} (h : a.Perm b) : coefAt s a = coefAt s b := by
  induction h with
  | nil => rfl
  | cons t _ ih => rw [coefAt, coefAt, ih]
  | swap t u l => simp only [coefAt]; omega
  | trans _ _ i1 i2 => rw [i1, i2]

/-- In order, no word twice, no coefficient 0. -/
def Canon (ts : List Tm) : Prop := ts.Pairwise (fun a b => lessW a.s b.s = true) ∧ ∀ t ∈ ts, t.c ≠ 0
theorem coefAt_none {s : ByteArray} {ts : List Tm} (h : ∀ t ∈ ts, t.s ≠ s) : coefAt s ts = 0 := by
  induction ts with
  | nil => rfl
  | cons t r ih => rw [coefAt, if_neg (h t (by simp)), ih fun u hu => h u (by simp [hu])]; rfl
theorem canon_unique : ∀ {a b : List Tm}, Canon a → Canon b → (∀ s, coefAt s a = coefAt s b) → a = b
  | [], [], _, _, _ => rfl
  | [], y :: b, _, hb, h => by
    have h1 := h y.s
    rw [coefAt, coefAt, if_pos rfl, coefAt_none fun t ht => (lessW_ne ((List.pairwise_cons.1 hb.1).1 t ht)).symm] at h1
    exact absurd (by omega) (hb.2 y (by simp))
  | x :: a, [], ha, _, h => by
    have h1 := h x.s
    rw [coefAt, coefAt, if_pos rfl, coefAt_none fun t ht => (lessW_ne ((List.pairwise_cons.1 ha.1).1 t ht)).symm] at h1
    exact absurd (by omega) (ha.2 x (by simp))
  | x :: a, y :: b, ha, hb, h => by
    obtain ⟨a1, a2⟩ := List.pairwise_cons.1 ha.1
    obtain ⟨b1, b2⟩ := List.pairwise_cons.1 hb.1
    have na : coefAt x.s a = 0 := coefAt_none fun t ht => (lessW_ne (a1 t ht)).symm
    have nb : coefAt y.s b = 0 := coefAt_none fun t ht => (lessW_ne (b1 t ht)).symm
    have e : x.s = y.s := by
      cases h1 : lessW x.s y.s with
      | true =>
        have h2 := h x.s
        rw [coefAt, coefAt, if_pos rfl, if_neg (fun e => lessW_ne h1 e.symm), na, coefAt_none fun t ht => (lessW_ne (lessW_trans h1 (b1 t ht))).symm] at h2
        exact absurd (by omega) (ha.2 x (by simp))
      | false =>
        cases h3 : lessW y.s x.s with
        | true =>
          have h2 := h y.s
          rw [coefAt, coefAt, if_pos rfl, if_neg (fun e => lessW_ne h3 e.symm), nb, coefAt_none fun t ht => (lessW_ne (lessW_trans h3 (a1 t ht))).symm] at h2
          exact absurd (by omega) (hb.2 y (by simp))
        | false => exact lessW_tri h1 h3
    have ec : x.c = y.c := by
      have h2 := h x.s
      rw [coefAt, coefAt, if_pos rfl, if_pos e.symm, na, e, nb] at h2
      omega
    have et : x = y := by cases x; cases y; simp at e ec; rw [e, ec]
    subst et
    have := canon_unique ⟨a2, fun t ht => ha.2 t (by simp [ht])⟩ ⟨b2, fun t ht => hb.2 t (by simp [ht])⟩ (fun s => by
      have h2 := h s
      rw [coefAt, coefAt] at h2
      omega)
    rw [this]

/-- A term is left out if its coefficient is 0. -/
def nz (t : Tm) : List Tm := if t.c = 0 then [] else [t]
/-- A term is added to a list in order. -/
def addT : List Tm → Tm → List Tm
  | [], t => nz t
  | x :: r, t => if lessW x.s t.s then x :: addT r t else if x.s = t.s then nz ⟨t.c + x.c, t.s⟩ ++ r else nz t ++ x :: r
theorem coefAt_nz (s : ByteArray) (t : Tm) : coefAt s (nz t) = if t.s = s then t.c else 0 := by
  unfold nz
  by_cases h : t.c = 0
  · rw [if_pos h, h]; simp [coefAt]
  · rw [if_neg h]; simp [coefAt]
theorem coefAt_add (s : ByteArray) (t : Tm) : ∀ ts, coefAt s (addT ts t) = coefAt s ts + if t.s = s then t.c else 0
  | [] => by rw [addT, coefAt_nz, coefAt]; omega
  | x :: r => by
    rw [addT]
    by_cases h : lessW x.s t.s = true
    · rw [if_pos h, coefAt, coefAt, coefAt_add s t r]; omega
    · rw [if_neg h]
      by_cases h2 : x.s = t.s
      · rw [if_pos h2, coefAt_append, coefAt_nz, coefAt, h2]
        by_cases h3 : t.s = s
        · simp only [h3, if_true]; omega
        · simp only [h3, if_false]; omega
      · rw [if_neg h2, coefAt_append, coefAt_nz]; omega
theorem nz_mem {t u : Tm} (h : u ∈ nz t) : u = t ∧ t.c ≠ 0 := by
  unfold nz at h
  split at h
  · cases h
  · exact ⟨List.mem_singleton.1 h, by assumption⟩
theorem add_words {t : Tm} : ∀ {ts : List Tm} {u : Tm}, u ∈ addT ts t → u.s = t.s ∨ ∃ v ∈ ts, v.s = u.s
  | [], u, h => by rw [addT] at h; exact .inl (by rw [(nz_mem h).1])
  | x :: r, u, h => by
    rw [addT] at h
    split at h
    · rcases List.mem_cons.1 h with rfl | h
      · exact .inr ⟨_, by simp, rfl⟩
      · rcases add_words h with h | ⟨v, hv, e⟩
        · exact .inl h
        · exact .inr ⟨v, by simp [hv], e⟩
    · split at h
      · rcases List.mem_append.1 h with h | h
        · exact .inl (by rw [(nz_mem h).1])
        · exact .inr ⟨u, by simp [h], rfl⟩
      · rcases List.mem_append.1 h with h | h
        · exact .inl (by rw [(nz_mem h).1])
        · exact .inr ⟨u, h, rfl⟩
theorem canon_add {t : Tm} : ∀ {ts : List Tm}, Canon ts → Canon (addT ts t)
  | [], _ => by
    rw [addT]
    unfold nz
    split
    · exact ⟨List.Pairwise.nil, fun t h => by cases h⟩
    · exact ⟨by simp, fun u h => by rw [List.mem_singleton.1 h]; assumption⟩
  | x :: r, h => by
    obtain ⟨h1, h2⟩ := List.pairwise_cons.1 h.1
    have hr : Canon r := ⟨h2, fun u hu => h.2 u (by simp [hu])⟩
    rw [addT]
    by_cases hl : lessW x.s t.s = true
    · rw [if_pos hl]
      have ih := canon_add (t := t) hr
      refine ⟨List.pairwise_cons.2 ⟨fun u hu => ?_, ih.1⟩, fun u hu => ?_⟩
      · rcases add_words hu with e | ⟨v, hv, e⟩
        · rw [e]; exact hl
        · rw [← e]; exact h1 v hv
      · rcases List.mem_cons.1 hu with rfl | hu
        · exact h.2 _ (by simp)
        · exact ih.2 u hu
    · rw [if_neg hl]
      by_cases h3 : x.s = t.s
      · rw [if_pos h3]
        refine ⟨List.pairwise_append.2 ⟨?_, h2, fun u hu v hv => ?_⟩, fun u hu => ?_⟩
        · unfold nz; split <;> simp
        · rw [(nz_mem hu).1]; show lessW t.s v.s = true; rw [← h3]; exact h1 v hv
        · rcases List.mem_append.1 hu with hu | hu
          · obtain ⟨e, h4⟩ := nz_mem hu; rw [e]; exact h4
          · exact hr.2 u hu
      · rw [if_neg h3]
        have hlt : lessW t.s x.s = true := by
          cases h4 : lessW t.s x.s with
          | true => rfl
          | false => exact absurd (lessW_tri (by simpa using hl) h4) h3
        refine ⟨List.pairwise_append.2 ⟨?_, h.1, fun u hu v hv => ?_⟩, fun u hu => ?_⟩
        · unfold nz; split <;> simp
        · rw [(nz_mem hu).1]
          rcases List.mem_cons.1 hv with rfl | hv
          · exact hlt
          · exact lessW_trans hlt (h1 v hv)
        · rcases List.mem_append.1 hu with hu | hu
          · obtain ⟨e, h4⟩ := nz_mem hu; rw [e]; exact h4
          · exact h.2 u hu

/-- The sum of terms in any order. -/
def canonT (ts : List Tm) : List Tm := ts.foldl addT []
theorem canon_foldl : ∀ (ts acc : List Tm), Canon acc → Canon (ts.foldl addT acc) ∧ ∀ s, coefAt s (ts.foldl addT acc) = coefAt s acc + coefAt s ts
  | [], acc, h => ⟨h, fun s => by simp [coefAt]⟩
  | t :: r, acc, h => by
    obtain ⟨h1, h2⟩ := canon_foldl r (addT acc t) (canon_add h)
    refine ⟨h1, fun s => ?_⟩
    rw [List.foldl_cons, h2, coefAt_add, coefAt]
    omega
theorem canonT_spec (ts : List Tm) : Canon (canonT ts) ∧ ∀ s, coefAt s (canonT ts) = coefAt s ts := by
  obtain ⟨h1, h2⟩ := canon_foldl ts [] ⟨List.Pairwise.nil, fun t h => by cases h⟩
  exact ⟨h1, fun s => by rw [canonT, h2, coefAt]; omega⟩
theorem canonT_unique {ts us : List Tm} (h : Canon us) (he : ∀ s, coefAt s us = coefAt s ts) : us = canonT ts :=
  canon_unique h (canonT_spec ts).1 fun s => by rw [he, (canonT_spec ts).2]

/-- Equal neighbours joined: what stands at the end takes the next one in. -/
def pushT (acc : List Tm) (t : Tm) : List Tm :=
  match acc.getLast? with
  | some l => if l.s = t.s then acc.dropLast ++ [⟨l.c + t.c, l.s⟩] else acc ++ [t]
  | none => acc ++ [t]
def mergeT (ts : List Tm) : List Tm := ts.foldl pushT []

theorem push_nil (t : Tm) : pushT [] t = [t] := rfl
theorem push_last (a : List Tm) (l t : Tm) : pushT (a ++ [l]) t = if l.s = t.s then a ++ [⟨l.c + t.c, l.s⟩] else a ++ [l] ++ [t] := by
  unfold pushT; simp
theorem coefAt_push (s : ByteArray) (a : List Tm) (t : Tm) : coefAt s (pushT a t) = coefAt s a + if t.s = s then t.c else 0 := by
  rcases List.eq_nil_or_concat a with rfl | ⟨b, l, rfl⟩
  · rw [push_nil]; simp [coefAt]
  · rw [List.concat_eq_append, push_last]
    by_cases h : l.s = t.s
    · rw [if_pos h, coefAt_append, coefAt_append]
      simp only [coefAt]
      rw [h]
      by_cases h2 : t.s = s
      · simp only [h2, if_true]; omega
      · simp only [h2, if_false]; omega
    · rw [if_neg h, coefAt_append]
      simp only [coefAt]; omega

/-- What was gathered is in order, and its last word is not greater than what comes. -/
theorem merge_foldl : ∀ (ts acc : List Tm), acc.Pairwise (fun a b => lessW a.s b.s = true) → ts.Pairwise (fun a b => lessW b.s a.s = false) → (∀ l, acc.getLast? = some l → ∀ t ∈ ts, lessW t.s l.s = false) →
    (ts.foldl pushT acc).Pairwise (fun a b => lessW a.s b.s = true) ∧ ∀ s, coefAt s (ts.foldl pushT acc) = coefAt s acc + coefAt s ts
  | [], acc, h, _, _ => ⟨h, fun s => by simp [coefAt]⟩
  | t :: r, acc, h, hts, hl => by
    obtain ⟨t1, t2⟩ := List.pairwise_cons.1 hts
    have hp : (pushT acc t).Pairwise (fun a b => lessW a.s b.s = true) ∧ ∃ l, (pushT acc t).getLast? = some l ∧ l.s = t.s := by
      rcases List.eq_nil_or_concat acc with rfl | ⟨b, l, rfl⟩
      · rw [push_nil]; exact ⟨by simp, t, rfl, rfl⟩
      · rw [List.concat_eq_append] at *
        rw [push_last]
        obtain ⟨p1, _, p3⟩ := List.pairwise_append.1 h
        by_cases e : l.s = t.s
        · rw [if_pos e]
          exact ⟨List.pairwise_append.2 ⟨p1, by simp, fun u hu v hv => by rw [List.mem_singleton.1 hv]; show lessW u.s l.s = true; exact p3 u hu l (List.mem_singleton.2 rfl)⟩, ⟨l.c + t.c, l.s⟩, by simp, e⟩
        · rw [if_neg e]
          have hlt : lessW l.s t.s = true := by
            cases h4 : lessW l.s t.s with
            | true => rfl
            | false => exact absurd (lessW_tri h4 (hl l (by simp) t (by simp))) e
          refine ⟨List.pairwise_append.2 ⟨h, by simp, fun u hu v hv => ?_⟩, t, by simp, rfl⟩
          rw [List.mem_singleton.1 hv]
          rcases List.mem_append.1 hu with hu | hu
          · exact lessW_trans (p3 u hu l (by simp)) hlt
          · rw [List.mem_singleton.1 hu]; exact hlt
    obtain ⟨l, hll, hls⟩ := hp.2
    obtain ⟨q1, q2⟩ := merge_foldl r (pushT acc t) hp.1 t2 (fun l' hl' u hu => by
      rw [hll] at hl'; cases hl'
      rw [hls]; exact t1 u hu)
    refine ⟨q1, fun s => ?_⟩
    rw [List.foldl_cons, q2, coefAt_push, coefAt]
    omega
theorem coefAt_filter (s : ByteArray) : ∀ ts : List Tm, coefAt s (ts.filter fun t => !(t.c == 0)) = coefAt s ts
  | [] => rfl
  | t :: r => by
    rw [List.filter_cons]
    by_cases h : t.c = 0
    · simp only [h, beq_self_eq_true, Bool.not_true, Bool.false_eq_true, if_false]
      rw [coefAt_filter s r, coefAt, h]; simp
    · have : (!(t.c == 0)) = true := by simpa using h
      rw [if_pos this, coefAt, coefAt, coefAt_filter s r]
/-- **What the program gathers is the model's sum.** -/
theorem gathered_eq {ts ss : List Tm} (hp : ss.Perm ts) (hs : ss.Pairwise (fun a b => lessW b.s a.s = false)) : (mergeT ss).filter (fun t => !(t.c == 0)) = canonT ts := by
  obtain ⟨h1, h2⟩ := merge_foldl ss [] List.Pairwise.nil hs (fun l h => by cases h)
  refine canonT_unique ⟨h1.sublist List.filter_sublist, fun t ht => ?_⟩ fun s => ?_
  · have := (List.mem_filter.1 ht).2
    simpa using this
  · rw [coefAt_filter]
    unfold mergeT
    rw [h2, coefAt, coefAt_perm s hp]
    omega

end Go.Proofs.YtdhmicpoigoleabDoor

/- The contracts of the model's products and commutators of words. -/

namespace Go.Proofs.YtdhmicpoigoleabDoor
open Go.RowKit

/-- What is told of letters. -/
def toldV (l : List UInt8) : Value := if l.length ≤ 60 then .tuple #[.string (bstr l), .bool true] else .tuple #[.string ByteArray.empty, .bool false]
theorem toldV_yes {l : List UInt8} (h : l.length ≤ 60) : toldV l = .tuple #[.string (bstr l), .bool true] := if_pos h
theorem toldV_no {l : List UInt8} (h : ¬ l.length ≤ 60) : toldV l = .tuple #[.string ByteArray.empty, .bool false] := if_neg h

theorem append_toList (a b : ByteArray) : (a ++ b).data.toList = a.data.toList ++ b.data.toList := by simp
theorem append_size (a b : ByteArray) : (a ++ b).size = a.size + b.size := by simp

/-- The letters of a commutator. -/
def commL (a b : List UInt8) : List UInt8 := a ++ b ++ backL a ++ backL b

end Go.Proofs.YtdhmicpoigoleabDoor

/- The contracts of the program's 'WordTimes' and 'WordComm'. -/

namespace Go.Proofs.YtdhmicpoigoleabDoor
open Go.RowKit Go.Shelf

/-- A word in a box, and the function that gives letters out of it. -/
structure Item where
  gf : Nat
  sv : Value
  L : List UInt8
  xs : List UInt8
def Gives (it : Item) : Prop :=
  (∀ (W : World) (Bs n₀ : Nat), Bs < n₀ → n₀ ≤ W.heap.size → W.cell? ⟨Bs, 0, none⟩ = some it.sv → IsWord n₀ W it.sv it.L → SeqO n₀ W it.gf #[.pointer (some ⟨Bs, 0, none⟩)] it.xs) ∧
  ∀ args w, (callFunc it.gf args).run Tryd.prog w = .ok (.enter it.gf args) w
def funcs : Nat → List Item → List Value
  | _, [] => []
  | k, it :: r => .func (.func it.gf) #[] #[.pointer (some ⟨k, 0, none⟩)] :: funcs (k + 1) r
def partsOf : Nat → List Item → List Part
  | _, [] => []
  | k, it :: r => ⟨it.gf, #[.pointer (some ⟨k, 0, none⟩)], it.xs⟩ :: partsOf (k + 1) r
theorem partsOf_len : ∀ (its : List Item) (k : Nat), (partsOf k its).length = its.length
  | [], _ => rfl
  | it :: r, k => by simp [partsOf, partsOf_len r]
theorem funcs_get : ∀ (its : List Item) (k i : Nat) (h : i < (partsOf k its).length), (funcs k its)[i]? = some (.func (.func (partsOf k its)[i].gf) #[] (partsOf k its)[i].lb)
  | [], _, _, h => by simp [partsOf] at h
  | it :: r, k, 0, _ => rfl
  | it :: r, k, i + 1, h => by
    simp only [partsOf, List.length_cons] at h
    simpa [partsOf, funcs] using funcs_get r (k + 1) i (by omega)
theorem cat_parts : ∀ (its : List Item) (k : Nat), cat (partsOf k its) = (its.map Item.xs).flatten
  | [], _ => rfl
  | it :: r, k => by
    have := cat_parts r (k + 1)
    simp only [cat] at this ⊢
    simp only [partsOf, List.map_cons, List.flatten_cons, this]
theorem cell_past {w : World} {p : Addr} {v : Value} (h : w.cell? p = some v) (o : Obj) : (w.alloc o).cell? p = some v := (World.cell?_alloc_lt w o p (World.block_lt_of_cell? w _ h)).trans h
theorem cell_drawn {w : World} {p : Addr} {v : Value} (h : w.cell? p = some v) : w.drew.cell? p = some v := h

end Go.Proofs.YtdhmicpoigoleabDoor

/- Maps from texts to numbers, read as lists of terms whose texts are all different, in whatever order; looked up, written, ranged over, copied, cleared. -/

namespace Go.Proofs.YtdhmicpoigoleabDoor
open Go.RowKit Go.Maps Go.ChangeMaps
open Go.WideMaps Go.WideShapes
open Go.WideElems (Fit rd rg rd_val rd_key rg_of)

abbrev SerT : TypeId := 35
abbrev MonT : TypeId := 57
abbrev NumT : TypeId := 3
theorem lawMon : Keyed Tryd.prog MonT := string_keyed Tryd.underlying57
theorem undSer : Tryd.prog.underlying SerT = some (.map MonT NumT) := Tryd.underlying35
theorem zeroNum (w : World) : (zeroValue NumT).run Tryd.prog w = .ok (.int .i64 0) w := by kernel_rfl
def lk (s : ByteArray) : Lit := .string s.data.toList
def tmOf (p : Lit × DataW Unit) : Tm := ⟨match p.2 with | .lit (.int _ a) => a | _ => 0, match p.1 with | .string l => bstr l | _ => { data := #[] }⟩
def Shape (p : Lit × DataW Unit) : Prop := ∃ (s : ByteArray) (c : Int), p = (lk s, .lit (.int .i64 c)) ∧ s.size ≤ maxLen ∧ (Lit.int .i64 c).wf = true
theorem tmOf_mk (s : ByteArray) (c : Int) : tmOf (lk s, .lit (.int .i64 c)) = ⟨c, s⟩ := by
  unfold tmOf lk
  simp only [bstr_of]
theorem wf64 {c : Int} (h : (Lit.int .i64 c).wf = true) : -9223372036854775808 ≤ c ∧ c ≤ 9223372036854775807 := by
  simp only [Lit.wf, Bool.and_eq_true, decide_eq_true_eq] at h
  have e1 : IntKind.i64.min = -9223372036854775808 := by decide
  have e2 : IntKind.i64.max = 9223372036854775807 := by decide
  omega
theorem lk_same (a b : ByteArray) : (lk a).sameKey (lk b) = decide (a = b) := by
  unfold lk
  simp only [Lit.sameKey]
  by_cases h : a = b
  · rw [h]; simp
  · have : a.data ≠ b.data := fun e => h (by cases a; cases b; exact congrArg _ e)
    simp [h, this]
theorem lk_inj {a b : ByteArray} (h : lk a = lk b) : a = b := by
  have := lk_same a b
  rw [h, WideAt.sameKey_self (by unfold lk; trivial)] at this
  exact of_decide_eq_true this.symm
theorem key_str {key : Value} {kl : Lit} (h : keyOf Tryd.prog MonT key = some kl) : ∃ s : ByteArray, key = .string s ∧ kl = lk s ∧ s.size ≤ maxLen := by
  obtain ⟨x, rfl, rfl, hx⟩ := Maps.keyOf_str Tryd.underlying57 h
  exact ⟨⟨x.toArray⟩, rfl, rfl, by simpa [ByteArray.size] using hx⟩
theorem key_mk {s : ByteArray} (h : s.size ≤ maxLen) : keyOf Tryd.prog MonT (.string s) = some (lk s) := keyOf_string_mk Tryd.underlying57 h

abbrev OwnsS (w : World) (b n : Nat) (D : DataW Unit) : Prop := w.ownsMap Tryd.prog MonT (plainElem Tryd.prog NumT) b n D
set_option maxRecDepth 100000 in
theorem owns_shape {w : World} {b n : Nat} {es : List (Lit × DataW Unit)} (h : OwnsS w b n (.map es)) : (∀ p ∈ es, Shape p) ∧ es.Pairwise (fun p q => p.1 ≠ q.1) ∧ es.length ≤ n ∧ es.length ≤ maxLen := by
  have hE := h.entries lawMon
  obtain ⟨es', clock, _, F, hs, hD⟩ := h
  injection hD with hD
  obtain ⟨es2, e2, hp, _⟩ := hE
  injection e2 with e2
  subst e2
  refine ⟨fun p hp => ?_, hp, ?_, ?_⟩
  · rw [hD] at hp
    obtain ⟨x, hx, rfl⟩ := List.mem_map.1 (mem_sorted.1 hp)
    obtain ⟨y, hy⟩ := F.reads x hx
    have er := rg_of hy
    rw [er]
    obtain ⟨s, _, hk, hs⟩ := key_str (rd_key hy)
    obtain ⟨z, hz, hzd⟩ := rd_val hy
    obtain ⟨c, _, rfl, hw⟩ := plainElem_int_inv Tryd.underlying3 hz
    exact ⟨s, c, Prod.ext hk hzd, hs, hw⟩
  · rw [hD, length_sorted]; simpa using hs
  · rw [hD, length_sorted]; simpa using F.size
theorem owns_tight {w : World} {b n : Nat} {es : List (Lit × DataW Unit)} (h : OwnsS w b n (.map es)) : OwnsS w b es.length (.map es) := by
  obtain ⟨es', clock, hb, F, hs, hD⟩ := h
  refine ⟨es', clock, hb, F, ?_, hD⟩
  injection hD with hD
  rw [hD, length_sorted]; simp

/-- Block b is a map with these entries, in whatever order. -/
def MapT (w : World) (b : Nat) (ts : List Tm) : Prop := ∃ es, OwnsS w b ts.length (.map es) ∧ (es.map tmOf).Perm ts
theorem MapT.lt {w : World} {b : Nat} {ts : List Tm} (h : MapT w b ts) : b < w.heap.size := by obtain ⟨es, h, _⟩ := h; exact World.ownsMap.lt h
theorem MapT.perm {w : World} {b : Nat} {ts us : List Tm} (h : MapT w b ts) (hp : ts.Perm us) : MapT w b us := by
  obtain ⟨es, h, hq⟩ := h
  exact ⟨es, hp.length_eq ▸ h, hq.trans hp⟩
theorem MapT.kept {w w' : World} {row : Option Nat} {b : Nat} {ts : List Tm} (h : MapT w b ts) (hg : w.grownBy w' row) (hne : some b ≠ row) : MapT w' b ts := by
  obtain ⟨es, h, hq⟩ := h
  exact ⟨es, World.ownsMap.kept h hg hne, hq⟩
theorem grown_of_below {w w' : World} (h : Below w.heap.size w w') : w.grownBy w' none := ⟨h.os, h.tape, h.output, h.size, fun k hk _ => h.block k hk⟩
theorem MapT.below {w w' : World} {b : Nat} {ts : List Tm} (h : MapT w b ts) (hb : Below w.heap.size w w') : MapT w' b ts := h.kept (grown_of_below hb) (by simp)
def Apart (ts : List Tm) : Prop := ts.Pairwise fun t u => t.s ≠ u.s
theorem apart_es {es : List (Lit × DataW Unit)} (hs : ∀ p ∈ es, Shape p) (hp : es.Pairwise (fun p q => p.1 ≠ q.1)) : Apart (es.map tmOf) := by
  unfold Apart
  rw [List.pairwise_map]
  refine hp.imp_of_mem fun {p q} hpm hqm hne => ?_
  obtain ⟨s, c, rfl, _⟩ := hs p hpm
  obtain ⟨s', c', rfl, _⟩ := hs q hqm
  rw [tmOf_mk, tmOf_mk]
  exact fun e => hne (by show lk s = lk s'; rw [show s = s' from e])
theorem Apart.perm {ts us : List Tm} (h : Apart ts) (hp : ts.Perm us) : Apart us := (hp.pairwise_iff (fun {_ _} hne => Ne.symm hne)).1 h
theorem MapT.apart {w : World} {b : Nat} {ts : List Tm} (h : MapT w b ts) : Apart ts := by
  obtain ⟨es, h, hq⟩ := h
  obtain ⟨hs, hp, _⟩ := owns_shape h
  exact (apart_es hs hp).perm hq
theorem MapT.small {w : World} {b : Nat} {ts : List Tm} (h : MapT w b ts) : ts.length ≤ maxLen ∧ ∀ t ∈ ts, t.s.size ≤ maxLen ∧ -9223372036854775808 ≤ t.c ∧ t.c ≤ 9223372036854775807 := by
  obtain ⟨es, h, hq⟩ := h
  obtain ⟨hs, hp, _, hl⟩ := owns_shape h
  refine ⟨by rw [← hq.length_eq]; simpa using hl, fun t ht => ?_⟩
  obtain ⟨p, hp, rfl⟩ := List.mem_map.1 (hq.mem_iff.2 ht)
  obtain ⟨s, c, rfl, h1, h2⟩ := hs p hp
  rw [tmOf_mk]
  exact ⟨h1, wf64 h2⟩
theorem apart_unique {ts : List Tm} (h : Apart ts) {t : Tm} (ht : t ∈ ts) : coefAt t.s ts = t.c := by
  induction ts with
  | nil => cases ht
  | cons u r ih =>
    obtain ⟨h1, h2⟩ := List.pairwise_cons.1 h
    unfold coefAt
    rcases List.mem_cons.1 ht with rfl | ht
    · rw [if_pos rfl, coefAt_none (fun v hv => Ne.symm (h1 v hv))]; omega
    · rw [if_neg (h1 t ht), ih h2 ht]; omega
theorem atKey_coef (s : ByteArray) : ∀ {es : List (Lit × DataW Unit)}, (∀ p ∈ es, Shape p) → es.Pairwise (fun p q => p.1 ≠ q.1) → (DataW.map es).atKey (lk s) (.lit (.int .i64 0)) = .lit (.int .i64 (coefAt s (es.map tmOf)))
  | [], _, _ => rfl
  | p :: r, hs, hp => by
    obtain ⟨s', c, rfl, _⟩ := hs p (by simp)
    obtain ⟨h1, h2⟩ := List.pairwise_cons.1 hp
    have ih := atKey_coef s (fun q hq => hs q (List.mem_cons_of_mem _ hq)) h2
    unfold DataW.atKey at ih ⊢
    rw [List.map_cons, tmOf_mk]
    unfold coefAt
    simp only [List.find?_cons, lk_same]
    by_cases he : s' = s
    · subst he
      simp only [decide_true, if_true]
      rw [coefAt_none (fun t ht => ?_), Int.add_zero]
      obtain ⟨q, hq, rfl⟩ := List.mem_map.1 ht
      have hne := h1 q hq
      obtain ⟨s2, c2, rfl, _⟩ := hs q (List.mem_cons_of_mem _ hq)
      rw [tmOf_mk]
      exact fun e => hne (by show lk s' = lk s2; rw [show s2 = s' from e])
    · simp only [he, decide_false, if_false, Int.zero_add]
      exact ih
theorem MapT.look {w : World} {b : Nat} {ts : List Tm} (h : MapT w b ts) : ∃ n D, OwnsS w b n D ∧ ∀ s, D.atKey (lk s) (.lit (.int .i64 0)) = .lit (.int .i64 (coefAt s ts)) := by
  obtain ⟨es, h, hq⟩ := h
  obtain ⟨hs, hp, _⟩ := owns_shape h
  exact ⟨_, _, h, fun s => by rw [atKey_coef s hs hp, coefAt_perm s hq]⟩
def putT (ts : List Tm) (s : ByteArray) (v : Int) : List Tm := ⟨v, s⟩ :: ts.filter fun t => !decide (t.s = s)
theorem filter_tm (s : ByteArray) : ∀ {es : List (Lit × DataW Unit)}, (∀ p ∈ es, Shape p) → (es.filter (notKey (lk s))).map tmOf = (es.map tmOf).filter fun t => !decide (t.s = s)
  | [], _ => rfl
  | p :: r, hs => by
    obtain ⟨s', c, rfl, _⟩ := hs p (by simp)
    have ih := filter_tm s (fun q hq => hs q (List.mem_cons_of_mem _ hq))
    rw [List.map_cons, tmOf_mk, List.filter_cons, List.filter_cons]
    have e : notKey (lk s) (lk s', (DataW.lit (.int .i64 c) : DataW Unit)) = !decide (s' = s) := by unfold notKey; rw [lk_same]
    rw [e]
    by_cases h : s' = s
    · simp only [h, decide_true, Bool.not_true, Bool.false_eq_true, if_false]; exact ih
    · simp only [h, decide_false, Bool.not_false, if_true, List.map_cons, tmOf_mk]; rw [ih]
theorem put_perm {es : List (Lit × DataW Unit)} {ts : List Tm} (hs : ∀ p ∈ es, Shape p) (hq : (es.map tmOf).Perm ts) (s : ByteArray) (v : Int) : ∃ es', (DataW.map es).put (lk s) (.lit (.int .i64 v)) = .map es' ∧ (es'.map tmOf).Perm (putT ts s v) := by
  refine ⟨_, DataW.put_eq _ _ _, ?_⟩
  unfold putKey
  refine ((insert_perm _ _).map tmOf).trans ?_
  rw [List.map_cons, tmOf_mk, filter_tm s hs]
  exact (hq.filter _).cons _
/-- A store is possible, and what it makes. -/
theorem MapT.store {w : World} {b : Nat} {ts : List Tm} (h : MapT w b ts) : ∃ D, OwnsS w b ts.length D ∧ ∀ s v w', OwnsS w' b (ts.length + 1) (D.put (lk s) (.lit (.int .i64 v))) → MapT w' b (putT ts s v) := by
  obtain ⟨es, h, hq⟩ := h
  obtain ⟨hs, hp, _⟩ := owns_shape h
  refine ⟨_, h, fun s v w' h' => ?_⟩
  obtain ⟨es', e, hp'⟩ := put_perm hs hq s v
  rw [e] at h'
  refine ⟨es', ?_, hp'⟩
  have := owns_tight h'
  rwa [show es'.length = (putT ts s v).length by rw [← hp'.length_eq, List.length_map]] at this
theorem coefAt_put (ts : List Tm) (s : ByteArray) (v : Int) (k : ByteArray) : coefAt k (putT ts s v) = if k = s then v else coefAt k ts := by
  unfold putT
  have hf : ∀ us : List Tm, coefAt k (us.filter fun t => !decide (t.s = s)) = if k = s then 0 else coefAt k us := by
    intro us
    induction us with
    | nil => simp [coefAt]
    | cons u r ih =>
      rw [List.filter_cons]
      by_cases hu : u.s = s
      · simp only [hu, decide_true, Bool.not_true, Bool.false_eq_true, if_false]
        rw [ih]
        by_cases hk : k = s
        · simp [hk]
        · simp only [hk, if_false]
          unfold coefAt
          rw [hu, if_neg (Ne.symm hk), Int.zero_add]
          cases r <;> rfl
      · simp only [hu, decide_false, Bool.not_false, if_true]
        have ec : ∀ x : List Tm, coefAt k (u :: x) = (if u.s = k then u.c else 0) + coefAt k x := fun x => rfl
        rw [ec, ec, ih]
        by_cases hk : k = s
        · rw [hk]; simp [hu]
        · simp [hk]
  have ec : ∀ (u : Tm) (x : List Tm), coefAt k (u :: x) = (if u.s = k then u.c else 0) + coefAt k x := fun _ _ => rfl
  rw [ec, hf]
  by_cases hk : k = s
  · simp [hk]
  · simp [hk, Ne.symm hk]
theorem mem_put {ts : List Tm} {s : ByteArray} {v : Int} {t : Tm} (h : t ∈ putT ts s v) : t = ⟨v, s⟩ ∨ t ∈ ts := by
  unfold putT at h
  rcases List.mem_cons.1 h with h | h
  · exact .inl h
  · exact .inr (List.mem_filter.1 h).1
theorem put_len (ts : List Tm) (s : ByteArray) (v : Int) : (putT ts s v).length ≤ ts.length + 1 := by
  unfold putT
  have := List.length_filter_le (fun t : Tm => !decide (t.s = s)) ts
  simp only [List.length_cons]; omega
theorem mapT_made (w : World) : MapT (w.alloc (.map #[] 0)) w.heap.size [] := ⟨[], World.ownsMap_made w _ _ _, .refl _⟩

/-! ### A range over a map under way -/
def RangeT (w : World) (b r : Nat) (ts done : List Tm) (cnt : Nat) : Prop :=
  ∃ es left, w.ranges Tryd.prog MonT (plainElem (H := Unit) Tryd.prog NumT) b r ts.length (.map es) left cnt ∧ (es.map tmOf).Perm ts ∧ done.Perm ((es.filter fun p => !left p.1).map tmOf)
theorem RangeT.map {w : World} {b r : Nat} {ts done : List Tm} {cnt : Nat} (h : RangeT w b r ts done cnt) : MapT w b ts := by
  obtain ⟨es, left, h, hq, _⟩ := h
  exact ⟨es, World.ranges.owns h, hq⟩
theorem RangeT.kept {w w' : World} {row : Option Nat} {b r : Nat} {ts done : List Tm} {cnt : Nat} (h : RangeT w b r ts done cnt) (hg : w.grownBy w' row) (hb : some b ≠ row) (hr : some r ≠ row) : RangeT w' b r ts done cnt := by
  obtain ⟨es, left, h, hq⟩ := h
  exact ⟨es, left, World.ranges.kept h hg hb hr, hq⟩
theorem RangeT.ne {w : World} {b r : Nat} {ts done : List Tm} {cnt : Nat} (h : RangeT w b r ts done cnt) : r ≠ b := by obtain ⟨es, left, h, _⟩ := h; exact World.ranges.ne h
theorem RangeT.lt {w : World} {b r : Nat} {ts done : List Tm} {cnt : Nat} (h : RangeT w b r ts done cnt) : r < w.heap.size := by obtain ⟨es, left, h, _⟩ := h; exact World.ranges.lt h
theorem RangeT.cnt {w : World} {b r : Nat} {ts done : List Tm} {cnt : Nat} (h : RangeT w b r ts done cnt) : w.rangeLeft b r = cnt := by obtain ⟨es, left, h, _⟩ := h; exact World.ranges.left_eq h
theorem RangeT.donelen {w : World} {b r : Nat} {ts done : List Tm} {cnt : Nat} (h : RangeT w b r ts done cnt) : done.length ≤ ts.length := by
  obtain ⟨es, left, _, hq, hd⟩ := h
  rw [hd.length_eq, List.length_map, ← hq.length_eq, List.length_map]
  exact List.length_filter_le _ _
theorem RangeT.sub {w : World} {b r : Nat} {ts done : List Tm} {cnt : Nat} (h : RangeT w b r ts done cnt) : ∀ t ∈ done, t ∈ ts := by
  obtain ⟨es, left, _, hq, hd⟩ := h
  intro t ht
  obtain ⟨p, hp, rfl⟩ := List.mem_map.1 (hd.mem_iff.1 ht)
  exact hq.mem_iff.1 (List.mem_map.2 ⟨p, (List.mem_filter.1 hp).1, rfl⟩)
theorem shape_key {p : Lit × DataW Unit} (h : Shape p) : WideAt.IsKeyLit p.1 := by obtain ⟨s, c, rfl, _⟩ := h; unfold lk; trivial
theorem filter_none {α : Type} {f : α → Bool} : ∀ {l : List α}, (∀ x ∈ l, f x = false) → l.filter f = []
  | [], _ => rfl
  | x :: r, h => by rw [List.filter_cons, h x (by simp)]; simp only [Bool.false_eq_true, if_false]; exact filter_none fun y hy => h y (List.mem_cons_of_mem _ hy)
theorem filter_every {α : Type} {f : α → Bool} : ∀ {l : List α}, (∀ x ∈ l, f x = true) → l.filter f = l
  | [], _ => rfl
  | x :: r, h => by rw [List.filter_cons, h x (by simp)]; simp only [if_true]; rw [filter_every fun y hy => h y (List.mem_cons_of_mem _ hy)]
theorem strike_perm {left : Lit → Bool} {p : Lit × DataW Unit} (hl : left p.1 = true) (hk : WideAt.IsKeyLit p.1) : ∀ {es : List (Lit × DataW Unit)}, es.Pairwise (fun p q => p.1 ≠ q.1) → p ∈ es →
    (es.filter fun q => !(left q.1 && !q.1.sameKey p.1)).Perm (es.filter (fun q => !left q.1) ++ [p])
  | [], _, h => by cases h
  | q :: r, hp, h => by
    obtain ⟨h1, h2⟩ := List.pairwise_cons.1 hp
    rw [List.filter_cons, List.filter_cons]
    rcases List.mem_cons.1 h with rfl | h
    · rw [WideAt.sameKey_self hk, hl]
      simp only [Bool.not_true, Bool.and_false, Bool.not_false, if_true, Bool.false_eq_true, if_false]
      have e : (r.filter fun q => !(left q.1 && !q.1.sameKey p.1)) = r.filter fun q => !left q.1 := by
        refine List.filter_congr fun q hq => ?_
        have : q.1.sameKey p.1 = false := by
          cases hs : q.1.sameKey p.1
          · rfl
          · exact absurd (WideAt.sameKey_eq hs).symm (h1 q hq)
        rw [this]; simp
      rw [e]
      exact (List.perm_append_comm (l₁ := [p])).trans (.refl _)
    · have : q.1.sameKey p.1 = false := by
        cases hs : q.1.sameKey p.1
        · rfl
        · exact absurd (WideAt.sameKey_eq hs) (h1 p h)
      rw [this]
      have ih := strike_perm hl hk h2 h
      simp only [Bool.not_false, Bool.and_true]
      cases left q.1
      · simp only [Bool.not_false, if_true]; exact ih.cons q
      · simp only [Bool.not_true, Bool.false_eq_true, if_false]; exact ih

section
variable {ops : Array Oper} {rest : List Oper} {o : Oper} {a : Act} {Q : Exit → Act → World → Prop}
theorem wpList_range_map (w : World) (hg : o.guard = none) (m : Operand) (hop : o.op = Op.range SerT m) (b : Nat) (ts : List Tm) (hm : a.eval m = .map (some b)) (h : MapT w b ts)
    (hK : ∀ w', RangeT w' b w.heap.size ts [] ts.length → w.grownBy w' none → w'.heap.size = w.heap.size + 1 → wpList Tryd.prog ops Q rest (a.put o.dst (.pointer (some ⟨w.heap.size, 0, none⟩))) w') :
    wpList Tryd.prog ops Q (o :: rest) a w := by
  obtain ⟨es, h, hq⟩ := h
  obtain ⟨hs, hp, _⟩ := owns_shape h
  refine wpList_range_own w hg m SerT hop MonT NumT lawMon undSer (plainElem Tryd.prog NumT) b ts.length (.map es) hm h fun w' hr hgr hsz => hK w' ⟨es, Maps.has (DataW.map es), ?_, hq, ?_⟩ hgr hsz
  · have e : Maps.size (DataW.map es) = ts.length := by rw [Maps.size_eq, ← hq.length_eq, List.length_map]
    rw [e] at hr; exact hr
  · rw [filter_none (fun p hp => ?_)]
    · exact .refl _
    · rw [Maps.has_eq, List.any_eq_true.2 ⟨p, hp, WideAt.sameKey_self (shape_key (hs p hp))⟩]; rfl
set_option maxRecDepth 100000 in
theorem wpList_next_map (w : World) (hg : o.guard = none) (it : Operand) (hop : o.op = Op.next it false) (b r : Nat) (ts done : List Tm) (cnt : Nat) (hit : a.eval it = .pointer (some ⟨r, 0, none⟩)) (h : RangeT w b r ts done cnt)
    (hDone : done.Perm ts → wpList Tryd.prog ops Q rest (a.put o.dst (.tuple #[.bool false])) w)
    (hMore : ∀ (c : Int) (s : ByteArray) (w' : World) (cnt' : Nat), (⟨c, s⟩ : Tm) ∈ ts → RangeT w' b r ts (done ++ [⟨c, s⟩]) cnt' → cnt' < cnt → w.grownBy w' (some r) → w'.heap.size = w.heap.size →
      (Instr.entry (.pointer (some ⟨r, 0, none⟩))).run Tryd.prog w' = .ok (.tuple #[.string s, .int .i64 c]) w' → wpList Tryd.prog ops Q rest (a.put o.dst (.tuple #[.bool true, .string s, .int .i64 c])) w') :
    wpList Tryd.prog ops Q (o :: rest) a w := by
  obtain ⟨es, left, h, hq, hd⟩ := h
  have hown := World.ranges.owns h
  obtain ⟨hs, hp, _⟩ := owns_shape hown
  have hex : ∀ kl, left kl = true → ∃ p ∈ es, p.1 = kl := by
    obtain ⟨es', clock, since, seen, c0, _, _, _, hD, _, _, _, _, hl2, _⟩ := id h
    injection hD with hD
    intro kl hkl
    obtain ⟨x, hx, e⟩ := hl2 kl hkl
    exact ⟨_, by rw [hD]; exact mem_sorted.2 (List.mem_map.2 ⟨x, hx, rfl⟩), e⟩
  refine wpList_next_ranges w hg it hop MonT lawMon (plainElem Tryd.prog NumT) Value.string (Value.int .i64) (fun key kl hk => by obtain ⟨s, rfl, _⟩ := key_str hk; exact ⟨s, rfl⟩)
    (fun v y hv => by obtain ⟨c, rfl, _⟩ := plainElem_int_inv Tryd.underlying3 hv; exact ⟨c, rfl⟩) b r ts.length (.map es) left cnt hit h (fun _ hl => hDone ?_) ?_
  · refine hd.trans ?_
    rw [filter_every (fun p _ => by rw [hl]; rfl)]
    exact hq
  · intro s c kl y w' cnt' hkey hlk hv hat hrg hlt hgr hsz hen
    obtain ⟨s', e', rfl, hsz'⟩ := key_str hkey
    injection e' with e'
    subst e'
    obtain ⟨c', e', rfl, hw⟩ := plainElem_int_inv Tryd.underlying3 hv
    injection e' with _ e'
    subst e'
    obtain ⟨p, hpm, hpk⟩ := hex _ hlk
    obtain ⟨s2, c2, rfl, _, _⟩ := hs p hpm
    obtain rfl := lk_inj hpk
    have hmem : (⟨c2, s2⟩ : Tm) ∈ es.map tmOf := List.mem_map.2 ⟨_, hpm, tmOf_mk s2 c2⟩
    have hc2 : c2 = c := by
      have h1 := atKey_coef s2 hs hp
      rw [hat] at h1
      injection h1 with h1
      injection h1 with _ h1
      have h2 := apart_unique (apart_es hs hp) hmem
      rw [h1]; exact h2.symm
    subst hc2
    refine hMore c2 s2 w' cnt' (hq.mem_iff.1 hmem) ⟨es, _, hrg, hq, ?_⟩ hlt hgr hsz hen
    have hst := (strike_perm (left := left) hlk (shape_key (hs _ hpm)) hp hpm).map tmOf
    rw [List.map_append, List.map_cons, List.map_nil, tmOf_mk] at hst
    exact ((hd.append_right _).trans hst.symm)
theorem wpList_lookup_map (w : World) (hg : o.guard = none) (m x : Operand) (hop : o.op = Op.lookup SerT m x false) (b : Nat) (ts : List Tm) (hm : a.eval m = .map (some b)) (h : MapT w b ts) (s : ByteArray) (hx : a.eval x = .string s) (hs : s.size ≤ maxLen)
    (hK : wpList Tryd.prog ops Q rest (a.put o.dst (.int .i64 (coefAt s ts))) w) : wpList Tryd.prog ops Q (o :: rest) a w := by
  obtain ⟨n, D, hown, hat⟩ := h.look
  refine wpList_lookup_own_int w hg m x SerT hop MonT NumT .i64 lawMon undSer Tryd.underlying3 (zeroNum w) b n D hm hown (.string s) (lk s) hx (key_mk hs) fun c hc _ => ?_
  rw [hat] at hc
  injection hc with hc
  injection hc with _ hc
  rw [← hc]; exact hK
theorem wpList_update_map (w : World) (hg : o.guard = none) (m x v : Operand) (hop : o.op = Op.mapUpdate SerT m x v) (b : Nat) (ts : List Tm) (hm : a.eval m = .map (some b)) (h : MapT w b ts) (hn : ts.length < maxLen) (s : ByteArray) (c : Int)
    (hx : a.eval x = .string s) (hv : a.eval v = .int .i64 c) (hs : s.size ≤ maxLen) (hc : (Lit.int .i64 c).wf = true)
    (hK : ∀ w', MapT w' b (putT ts s c) → w.grownBy w' (some b) → wpList Tryd.prog ops Q rest (a.put o.dst undef) w') : wpList Tryd.prog ops Q (o :: rest) a w := by
  obtain ⟨D, hown, hput⟩ := h.store
  exact wpList_mapUpdate_own w hg m x v SerT hop MonT NumT lawMon undSer (plainElem Tryd.prog NumT) b ts.length D hm hown hn (.string s) (.int .i64 c) (lk s) hx hv (key_mk hs) _ [] (plainElem_int Tryd.underlying3 hc) fun w' h' hgr => hK w' (hput s c w' h') hgr
end

end Go.Proofs.YtdhmicpoigoleabDoor

/- The contracts of the laws' own helpers on slices of ints: are two equal, put marks in, are the marks still there. -/

namespace Go.Proofs.YtdhmicpoigoleabDoor
open Go.RowKit

def intsV (zs : List Int) : List Value := zs.map (Value.int .i64)
theorem intsV_len (zs : List Int) : (intsV zs).length = zs.length := by simp [intsV]
theorem infoInt : (Tryd.prog.info? 3).map (fun i => (i.zero, i.size, i.bytes)) = some (some (.int .i64 0), 1, 8) := by kernel_rfl

/-- The value v is a slice of the call's own that holds the ints zs, in a block from base on. -/
def IntRow (base : Nat) (w : World) (v : Value) (zs : List Int) : Prop := w.ownsRow base 3 1 v zs.length (intsV zs)

theorem IntRow.shape {base : Nat} {w : World} {v : Value} {zs : List Int} (h : IntRow base w v zs) :
    ∃ a g cap, v = .slice a zs.length cap ∧ (0 < zs.length → a = some ⟨g, 0, none⟩ ∧ base ≤ g ∧ g < w.heap.size) ∧ zs.length ≤ maxLen ∧ ∀ j (hj : j < zs.length), w.cell? ⟨g, j, none⟩ = some (.int .i64 zs[j]) ∧ w.frozen? ⟨g, j, none⟩ = false := by
  rcases h.2 with ⟨rfl, h0⟩ | ⟨g, cap, cur, rfl, hb, hg, hn, hc, _⟩
  · exact ⟨none, 0, 0, by rw [h0], fun h => by omega, by rw [h0]; exact Nat.zero_le _, fun j hj => by omega⟩
  · refine ⟨some ⟨g, 0, none⟩, g, cap, rfl, fun _ => ⟨rfl, hb, (Array.getElem?_eq_some_iff.1 hg).1⟩, Nat.le_trans hn hc, fun j hj => ⟨?_, h.frozenAt j⟩⟩
    rw [h.cellAt j (by omega)]
    simp [intsV, hj]
theorem IntRow.below {base : Nat} {w w' : World} {v : Value} {zs : List Int} (h : IntRow base w v zs) (hb : Below w.heap.size w w') : IntRow base w' v zs :=
  h.kept ⟨hb.os, hb.tape, hb.output, hb.size, fun j hj _ => hb.block j hj⟩ (row := none) (by
    rcases h.2 with ⟨rfl, _⟩ | ⟨g, cap, cur, rfl, _⟩
    · exact .inl rfl
    · exact .inr (by simp [Value.ownBlock]))
theorem IntRow.mono {b1 b2 : Nat} {w : World} {v : Value} {zs : List Int} (h : IntRow b1 w v zs) (hb : b2 ≤ b1) : IntRow b2 w v zs := ownsRow_base h hb

/-- The marks k, k + 1, .. -/
def marks (k n : Nat) : List Int := (List.range n).map fun i => ((k + i : Nat) : Int)
theorem marks_succ (k j : Nat) : marks k (j + 1) = marks k j ++ [((k + j : Nat) : Int)] := by simp [marks, List.range_succ]
theorem marks_len (k n : Nat) : (marks k n).length = n := by simp [marks]

end Go.Proofs.YtdhmicpoigoleabDoor

/- The contract of the program's 'WordSums'. -/

namespace Go.Proofs.YtdhmicpoigoleabDoor
open Go.RowKit Go.Shelf

attribute [local go_sem] Oper.semAt_some

theorem idx_tab : ((List.range 256).all fun n => !(decide ((97 ≤ n ∧ n ≤ 100) ∨ (65 ≤ n ∧ n ≤ 68))) || (decide (bits BinOp.or IntKind.u8 (n : Int) 32 = ((if 97 ≤ n then n - 97 else n - 65 : Nat) : Int) + 97) && decide (bits BinOp.and IntKind.u8 (n : Int) 32 = if 97 ≤ n then 32 else 0))) = true := by kernel_rfl
theorem idx_let (c : UInt8) (h : letB c = true) : bits BinOp.or IntKind.u8 (c.toNat : Int) 32 = (idxB c : Int) + 97 ∧ bits BinOp.and IntKind.u8 (c.toNat : Int) 32 = if 97 ≤ c.toNat then 32 else 0 := by
  have := List.all_eq_true.1 idx_tab c.toNat (List.mem_range.2 c.toNat_lt)
  simp only [Bool.or_eq_true, Bool.and_eq_true, Bool.not_eq_true', decide_eq_false_iff_not, decide_eq_true_eq] at this
  exact this.resolve_left (fun h2 => h2 ((letB_iff c).1 h))

theorem iSign_any (c : UInt8) (w : World) (h : letB c = true) :
    Calls Tryd.prog 81 #[.int .u8 (c.toNat : Int)] w fun e w' => e = .returned (.int .i64 (sgnB c)) ∧ w' = w := by
  have hb := (idx_let c h).2
  by_cases h97 : 97 ≤ c.toNat
  · rw [if_pos h97] at hb
    have hs : Hid (sgnB c = 1) := by unfold sgnB; rw [if_pos h97]; exact Lib.hid rfl
    clear h h97
    go_enter Tryd.func81, Tryd.ntmps81
    go_wp2
    go_ret
    exact ⟨ret_int hs.out.symm, rfl⟩
  · rw [if_neg h97] at hb
    have hs : Hid (sgnB c = -1) := by unfold sgnB; rw [if_neg h97]; exact Lib.hid rfl
    clear h h97
    go_enter Tryd.func81, Tryd.ntmps81
    go_wp2
    go_ret
    exact ⟨ret_int hs.out.symm, rfl⟩

end Go.Proofs.YtdhmicpoigoleabDoor

/- The contract of the model's 'l2Add'. -/

namespace Go.Proofs.YtdhmicpoigoleabDoor
open Go.RowKit Go.Shelf

theorem termsV_cells {w : World} {x : Addr} {ts : List Tm} (h : TermsAt w x ts) : ∀ j u, (termsV ts)[j]? = some u → w.cell? (x.add j) = some u := fun j u hu => by
  have hj : j < ts.length * 2 := by rw [← termsV_len]; exact (List.getElem?_eq_some_iff.1 hu).1
  have hg := termsV_get ts (j / 2) (by omega)
  have hc := h.2 (j / 2) (by omega)
  rcases Nat.mod_two_eq_zero_or_one j with e | e
  · have e2 : j / 2 * 2 = j := by omega
    rw [e2] at hg hc
    rw [hg.1] at hu; cases hu; exact hc.1
  · have e2 : j / 2 * 2 + 1 = j := by omega
    rw [e2] at hg hc
    rw [hg.2] at hu; cases hu; exact hc.2
theorem TermsAt.cells {w : World} {x : Addr} {ts : List Tm} (h : TermsAt w x ts) : ∀ j u, (termsV ts)[j]? = some u → w.cell? (x.add j) = some u := termsV_cells h
theorem TermsAt.takeAt {w : World} {x : Addr} {ts : List Tm} (h : TermsAt w x ts) (k : Nat) : TermsAt w x (ts.take k) :=
  ⟨h.1, fun i hi => by
    simp only [List.length_take] at hi
    rw [List.getElem_take]
    exact h.2 i (by omega)⟩
theorem TermsAt.dropAt {w : World} {g : Nat} {ts : List Tm} (h : TermsAt w ⟨g, 0, none⟩ ts) (k : Nat) : TermsAt w ⟨g, k * 2, none⟩ (ts.drop k) := by
  refine ⟨h.1, fun i hi => ?_⟩
  simp only [List.length_drop] at hi
  have ha : ∀ o j, (⟨g, o, none⟩ : Addr).add j = ⟨g, o + j, none⟩ := fun o j => by unfold Addr.add; split <;> simp_all
  have := h.2 (k + i) (by omega)
  rw [ha, ha] at this
  rw [ha, ha, List.getElem_drop, show k * 2 + i * 2 = 0 + (k + i) * 2 by omega, show k * 2 + (i * 2 + 1) = 0 + ((k + i) * 2 + 1) by omega]
  exact this
theorem oneCell_terms (ts : List Tm) : ∀ u ∈ termsV ts, u.oneCell' = true := by
  induction ts with
  | nil => intro u h; cases h
  | cons t r ih =>
    intro u h
    rw [termsV_cons] at h
    rcases List.mem_cons.1 h with rfl | h
    · rfl
    · rcases List.mem_cons.1 h with rfl | h
      · rfl
      · exact ih u h
theorem notNil {w : World} {base n : Nat} {e : TypeId} {size : Nat} {v : Value} {xs : List Value} (h : w.ownsRow base e size v n xs) (hn : v ≠ .slice none 0 0) : ∃ g cap, base ≤ g ∧ v = .slice (some ⟨g, 0, none⟩) n cap := by
  rcases h.2 with ⟨e, _⟩ | ⟨g, cap, cur, e, hb, _⟩
  · exact absurd e hn
  · exact ⟨g, cap, hb, e⟩
theorem cell_pair_new (w : World) (a b : Value) (t : TypeId) : ∀ j u, [a, b][j]? = some u → (w.alloc (.cells #[a, b] t)).cell? ((⟨w.heap.size, 0, none⟩ : Addr).add j) = some u := fun j u hu => by
  have ha : (⟨w.heap.size, 0, none⟩ : Addr).add j = ⟨w.heap.size, j, none⟩ := by unfold Addr.add; split <;> simp_all
  rw [ha, World.cell?_alloc_at _ _ _ _ rfl]
  match j, hu with
  | 0, hu => cases hu; rfl
  | 1, hu => cases hu; rfl
  | j + 2, hu => simp at hu

/-- A slice of the call's own that holds terms, not nil. -/
def OwnTerms (base : Nat) (w : World) (v : Value) (ts : List Tm) : Prop := ∃ g cap, v = .slice (some ⟨g, 0, none⟩) ts.length cap ∧ w.ownsRow base TI 2 v ts.length (termsV ts)
theorem addEnd {w w3 : World} {base g3 cap3 n m : Nat} {xs : List Value} {us : List Tm} (hB : Below base w w3) (h : w3.ownsRow base TI 2 (.slice (some ⟨g3, 0, none⟩) m cap3) m xs) (hm : m = us.length) (he : xs = termsV us) (hn : n = us.length) :
    (∃ v, Ending.returned (.slice (some ⟨g3, 0, none⟩) n cap3) = .returned v ∧ OwnTerms base w3 v us) ∧ Below base w w3 := by
  subst hm he hn
  exact ⟨⟨_, rfl, g3, cap3, rfl, h⟩, hB⟩

theorem addT_less : ∀ {ts : List Tm} {t : Tm} {k : Nat}, (∀ j (h : j < ts.length), j < k → lessW ts[j].s t.s = true) → k ≤ ts.length → addT ts t = ts.take k ++ addT (ts.drop k) t
  | _, _, 0, _, _ => by simp
  | [], _, k + 1, _, hk => by simp at hk
  | x :: r, t, k + 1, h, hk => by
    have h0 := h 0 (by simp) (by omega)
    have ih := addT_less (ts := r) (t := t) (k := k) (fun j hj hjk => by have := h (j + 1) (by simpa using hj) (by omega); simpa using this) (by simpa using hk)
    rw [List.take_succ_cons, List.drop_succ_cons, addT, if_pos (by simpa using h0), ih]
    rfl
theorem addT_end {ts : List Tm} {t : Tm} (h : ∀ j (h : j < ts.length), lessW ts[j].s t.s = true) : addT ts t = ts ++ nz t := by
  rw [addT_less (k := ts.length) (fun j hj _ => h j hj) (Nat.le_refl _), List.drop_length, List.take_length]
  rfl
theorem addT_at {ts : List Tm} {t u : Tm} {k : Nat} (hk : k < ts.length) (h : ∀ j (h : j < ts.length), j < k → lessW ts[j].s t.s = true) (hu : ts[k] = u) (hl : lessW u.s t.s = false) :
    addT ts t = ts.take k ++ (if u.s = t.s then nz ⟨t.c + u.c, t.s⟩ ++ ts.drop (k + 1) else nz t ++ ts.drop k) := by
  rw [addT_less h (Nat.le_of_lt hk), List.drop_eq_getElem_cons hk, hu, addT, if_neg (by rw [hl]; simp)]
theorem cat0 (a b : List Tm) : [] ++ termsV a ++ termsV b = termsV (a ++ ([] ++ b)) := by rw [List.nil_append, List.nil_append, termsV_append]
theorem cat1 (a b : List Tm) (c : Int) (s : ByteArray) : [] ++ termsV a ++ [.int .i64 c, .string s] ++ termsV b = termsV (a ++ ([⟨c, s⟩] ++ b)) := by rw [List.nil_append, termsV_append, termsV_append, List.append_assoc]; rfl
theorem cat2 (a b : List Tm) : termsV a ++ termsV b = termsV (a ++ ([] ++ b)) := cat0 a b
theorem cat3 (a b : List Tm) (c : Int) (s : ByteArray) : termsV a ++ .int .i64 c :: .string s :: termsV b = termsV (a ++ ([⟨c, s⟩] ++ b)) := by rw [termsV_append, termsV_append]; rfl
theorem lenCat0 (ts : List Tm) (k j : Nat) (hk : k ≤ ts.length) : (ts.take k ++ ([] ++ ts.drop j)).length = k + (ts.length - j) := by
  rw [List.length_append, List.nil_append, List.length_take, List.length_drop, Nat.min_eq_left hk]
theorem lenCat1 (ts : List Tm) (k j : Nat) (x : Tm) (hk : k ≤ ts.length) : (ts.take k ++ ([x] ++ ts.drop j)).length = k + (1 + (ts.length - j)) := by
  rw [List.length_append, List.length_append, List.length_take, List.length_drop, Nat.min_eq_left hk]; rfl
theorem len_nz0 {t : Tm} (h : t.c = 0) : nz t = [] := if_pos h
theorem len_nz1 {t : Tm} (h : t.c ≠ 0) : nz t = [t] := if_neg h

set_option maxRecDepth 100000 in
set_option maxHeartbeats 8000000 in
theorem l2Add_any (g cap n : Nat) (ts : List Tm) (c : Int) (s : ByteArray) (w : World) (hlen : ts.length = n) (hn : n ≤ 200000) (hx : TermsAt w ⟨g, 0, none⟩ ts) (hcap : n ≤ cap) (hcm : cap ≤ maxLen)
    (hc1 : -4000000000000000000 ≤ c) (hc2 : c ≤ 4000000000000000000) (hts : ∀ t ∈ ts, -4000000000000000000 ≤ t.c ∧ t.c ≤ 4000000000000000000) :
    Calls Tryd.prog 17 #[.slice (some ⟨g, 0, none⟩) n cap, .int .i64 c, .string s] w fun e w' => (∃ v, e = .returned v ∧ OwnTerms w.heap.size w' v (addT ts ⟨c, s⟩)) ∧ Below w.heap.size w w' := by
  obtain ⟨i0, hi, hz0, hz1, hz2⟩ := info_parts infoTerm
  have HN := Lib.hid hlen
  have HX := Lib.hid hx
  have HTs := Lib.hid hts
  have hmade := World.ownsRow_made (base := w.heap.size) (e := TI) (size := 2) w #[] 0 (Nat.le_refl _) (Nat.zero_le _) rfl
  have HLt : Hid (∀ k, k ≤ n → (termsV (ts.take k)).length = k * 2) := Lib.hid (fun k hk => by rw [termsV_len, List.length_take, Nat.min_eq_left (by omega)])
  have HCt : Hid (∀ k j u, (termsV (ts.take k))[j]? = some u → (w.alloc (.cells #[] TI)).cell? ((⟨g, 0, none⟩ : Addr).add j) = some u) := Lib.hid (fun k j u hu => by
    have h := ((hx.takeAt k).cells j u hu)
    exact (World.cell?_alloc_lt _ _ _ (World.block_lt_of_cell? _ _ h)).trans h)
  clear hlen hx hts
  unfold maxLen at hcm
  go_enter Tryd.func17, Tryd.ntmps17
  go_wp2
  go_loop [7] (fun i => ∃ k : Nat, k ≤ n ∧ i = .int .i64 k ∧ Hid (∀ j (h : j < ts.length), j < k → lessW ts[j].s s = true)) (fun i => n - (intOf i).toNat)
  case atStart => exact ⟨0, Nat.zero_le _, rfl, Lib.hid (fun j _ h => absurd h (Nat.not_lt_zero _))⟩
  case round =>
    obtain ⟨k, hk, rfl, HJ⟩ := hrel
    by_cases hlt : k < n
    · have hkz : k < ts.length := by rw [HN.out]; exact hlt
      obtain ⟨t, ht⟩ : ∃ t, ts[k] = t := ⟨_, rfl⟩
      have hcc := HTs.out t (by rw [← ht]; exact List.getElem_mem hkz)
      obtain ⟨hc3, hc4⟩ := hcc
      have ha : ∀ j, (⟨g, 0, none⟩ : Addr).add j = ⟨g, j, none⟩ := fun j => by unfold Addr.add; split <;> simp_all
      have hcl := HX.out.2 k hkz
      rw [ht, ha, ha] at hcl
      obtain ⟨q0, q1⟩ := hcl
      have HT := Lib.hid ht
      clear ht ha
      cases hl : lessW t.s s with
      | true =>
        have HL := Lib.hid hl
        clear hl
        go_wp2_with fail
        refine (l2Less_any _ _ _).mono ?_
        rintro e w' ⟨rfl, rfl⟩
        have hll := HL.out
        rw [hll]
        clear hll
        go_wp2
        go_round
        case rel =>
          refine ⟨k + 1, by omega, by go_num, Lib.hid ?_⟩
          intro j hj hjk
          by_cases e : j = k
          · subst e; rw [HT.out]; exact HL.out
          · exact HJ.out j hj (by omega)
        case measure => simp [intOf]; omega
      | false =>
        have HL := Lib.hid hl
        have hck : ¬ cap = k := by omega
        clear hl
        have HA := Lib.hid (fun c' => addT_at (t := ⟨c', s⟩) hkz HJ.out HT.out HL.out)
        by_cases hts : t.s = s
        · have HS := Lib.hid hts
          have hst : (t.s.toList == s.toList) = true := by rw [hts]; simp
          clear hts
          obtain ⟨z, hz⟩ : ∃ z, c + t.c = z := ⟨_, rfl⟩
          have hwz : IntKind.i64.wrap (c + t.c) = z := by rw [IntWalk.i64_in _ (by omega)]; exact hz
          have HZ := Lib.hid hz
          clear hz
          by_cases hz0 : z = 0
          · have HZ0 := Lib.hid hz0
            have hzb : (z != 0) = false := by rw [hz0]; rfl
            clear hz0
            by_cases hck1 : cap = k + 1
            · obtain rfl : n = k + 1 := by omega
              subst hck1
              go_wp2_with fail
              refine (l2Less_any _ _ _).mono ?_
              rintro e w' ⟨rfl, rfl⟩
              have hll := HL.out
              rw [hll]
              clear hll

              go_wp2_with (at_builtin; refine wpList_append_own _ rfl _ _ 23 rfl w.heap.size TI i0 (.agg #[.int .i64 0, .string ByteArray.empty]) 2 24 Tryd.underlying23 hi hz0 hz1 hz2 rfl (by decide) _ _ _ rfl hmade ⟨g, 0, none⟩ k (k + 1) (termsV (ts.take k)) rfl (HLt.out k (by omega)) (HCt.out k) (oneCell_terms _) (by unfold maxLen; omega) (by omega) (by simp) ?_)
              intro v1 w1 hown1 hgrow1 hnil1
              obtain ⟨g1, cap1, hg1b, rfl⟩ := notNil hown1 hnil1
              have hB1 : Below w.heap.size w w1 := ((Below.refl _ w).alloc (Nat.le_refl _) _).grown hgrow1 (by simp) (fun j ej => by cases ej; exact Nat.le_refl _)
              have HX1 := Lib.hid (HX.out.below hB1)
              have HO1 := Lib.hid hown1
              clear hown1 hgrow1 hnil1

              have r0 := (hB1.cell (p := ⟨g, k * 2, none⟩) HX.out.1).trans q0
              have r1 := (hB1.cell (p := ⟨g, k * 2 + 1, none⟩) HX.out.1).trans q1

              go_wp2_with (at_builtin; refine wpList_append_own _ rfl _ _ 23 rfl w.heap.size TI i0 (.agg #[.int .i64 0, .string ByteArray.empty]) 2 24 Tryd.underlying23 hi hz0 hz1 hz2 rfl (by decide) _ _ _ rfl HO1.out ⟨g, 0, none⟩ (0) _ (termsV (ts.drop (k + 1))) rfl (by rw [List.drop_of_length_le (by rw [HN.out]; omega)]; show 0 = _; omega) (fun j u h => by rw [List.drop_of_length_le (by rw [HN.out]; omega)] at h; simp [termsV] at h) (oneCell_terms _) (by unfold maxLen; omega) (by omega) hB1.size ?_)
              intro v3 w3 hown3 hgrow3 hnil3
              obtain ⟨g3, cap3, hg3b, rfl⟩ := notNil hown3 hnil3
              have hB3 : Below w.heap.size w w3 := hB1.grown hgrow3 hB1.size (fun j ej => by cases ej; exact hg1b)
              have HO3 := Lib.hid hown3
              clear hown3 hgrow3 hnil3
              go_wp2
              go_ret

              have e1 : addT ts ⟨c, s⟩ = ts.take k ++ ([] ++ ts.drop (k + 1)) := by rw [HA.out c, if_pos HS.out]; show _ ++ (nz ⟨c + t.c, s⟩ ++ _) = _; rw [HZ.out, len_nz0 HZ0.out]
              exact addEnd (us := addT ts ⟨c, s⟩) hB3 HO3.out (by rw [e1]; have h := lenCat0 ts k (k + 1) (by rw [HN.out]; omega); rw [HN.out] at h; omega) (by rw [e1]; first | exact cat0 _ _ | exact cat2 _ _) (by rw [e1]; have h := lenCat0 ts k (k + 1) (by rw [HN.out]; omega); rw [HN.out] at h; omega)
            · have hkn : k + 1 ≤ n := by omega
              go_wp2_with fail
              refine (l2Less_any _ _ _).mono ?_
              rintro e w' ⟨rfl, rfl⟩
              have hll := HL.out
              rw [hll]
              clear hll

              go_wp2_with (at_builtin; refine wpList_append_own _ rfl _ _ 23 rfl w.heap.size TI i0 (.agg #[.int .i64 0, .string ByteArray.empty]) 2 24 Tryd.underlying23 hi hz0 hz1 hz2 rfl (by decide) _ _ _ rfl hmade ⟨g, 0, none⟩ k cap (termsV (ts.take k)) rfl (HLt.out k (by omega)) (HCt.out k) (oneCell_terms _) (by unfold maxLen; omega) (by omega) (by simp) ?_)
              intro v1 w1 hown1 hgrow1 hnil1
              obtain ⟨g1, cap1, hg1b, rfl⟩ := notNil hown1 hnil1
              have hB1 : Below w.heap.size w w1 := ((Below.refl _ w).alloc (Nat.le_refl _) _).grown hgrow1 (by simp) (fun j ej => by cases ej; exact Nat.le_refl _)
              have HX1 := Lib.hid (HX.out.below hB1)
              have HO1 := Lib.hid hown1
              clear hown1 hgrow1 hnil1

              have r0 := (hB1.cell (p := ⟨g, k * 2, none⟩) HX.out.1).trans q0
              have r1 := (hB1.cell (p := ⟨g, k * 2 + 1, none⟩) HX.out.1).trans q1

              go_wp2_with (at_builtin; refine wpList_append_own _ rfl _ _ 23 rfl w.heap.size TI i0 (.agg #[.int .i64 0, .string ByteArray.empty]) 2 24 Tryd.underlying23 hi hz0 hz1 hz2 rfl (by decide) _ _ _ rfl HO1.out ⟨g, (k + 1) * 2, none⟩ (n - (k + 1)) _ (termsV (ts.drop (k + 1))) rfl (by rw [termsV_len, List.length_drop, HN.out]; first | done | omega) ((HX1.out.dropAt (k + 1)).cells) (oneCell_terms _) (by unfold maxLen; omega) (by omega) hB1.size ?_)
              intro v3 w3 hown3 hgrow3 hnil3
              obtain ⟨g3, cap3, hg3b, rfl⟩ := notNil hown3 hnil3
              have hB3 : Below w.heap.size w w3 := hB1.grown hgrow3 hB1.size (fun j ej => by cases ej; exact hg1b)
              have HO3 := Lib.hid hown3
              clear hown3 hgrow3 hnil3
              go_wp2
              go_ret

              have e1 : addT ts ⟨c, s⟩ = ts.take k ++ ([] ++ ts.drop (k + 1)) := by rw [HA.out c, if_pos HS.out]; show _ ++ (nz ⟨c + t.c, s⟩ ++ _) = _; rw [HZ.out, len_nz0 HZ0.out]
              exact addEnd (us := addT ts ⟨c, s⟩) hB3 HO3.out (by rw [e1]; have h := lenCat0 ts k (k + 1) (by rw [HN.out]; omega); rw [HN.out] at h; omega) (by rw [e1]; first | exact cat0 _ _ | exact cat2 _ _) (by rw [e1]; have h := lenCat0 ts k (k + 1) (by rw [HN.out]; omega); rw [HN.out] at h; omega)
          · have HZ0 := Lib.hid hz0
            have hzb : (z != 0) = true := by simpa using hz0
            clear hz0
            by_cases hck1 : cap = k + 1
            · obtain rfl : n = k + 1 := by omega
              subst hck1
              go_wp2_with fail
              refine (l2Less_any _ _ _).mono ?_
              rintro e w' ⟨rfl, rfl⟩
              have hll := HL.out
              rw [hll]
              clear hll

              go_wp2_with (at_builtin; refine wpList_append_own _ rfl _ _ 23 rfl w.heap.size TI i0 (.agg #[.int .i64 0, .string ByteArray.empty]) 2 24 Tryd.underlying23 hi hz0 hz1 hz2 rfl (by decide) _ _ _ rfl hmade ⟨g, 0, none⟩ k (k + 1) (termsV (ts.take k)) rfl (HLt.out k (by omega)) (HCt.out k) (oneCell_terms _) (by unfold maxLen; omega) (by omega) (by simp) ?_)
              intro v1 w1 hown1 hgrow1 hnil1
              obtain ⟨g1, cap1, hg1b, rfl⟩ := notNil hown1 hnil1
              have hB1 : Below w.heap.size w w1 := ((Below.refl _ w).alloc (Nat.le_refl _) _).grown hgrow1 (by simp) (fun j ej => by cases ej; exact Nat.le_refl _)
              have HX1 := Lib.hid (HX.out.below hB1)
              have HO1 := Lib.hid hown1
              clear hown1 hgrow1 hnil1

              have r0 := (hB1.cell (p := ⟨g, k * 2, none⟩) HX.out.1).trans q0
              have r1 := (hB1.cell (p := ⟨g, k * 2 + 1, none⟩) HX.out.1).trans q1

              go_wp2_with (at_builtin; refine wpList_append_own _ rfl _ _ 23 rfl w.heap.size TI i0 (.agg #[.int .i64 0, .string ByteArray.empty]) 2 24 Tryd.underlying23 hi hz0 hz1 hz2 rfl (by decide) _ _ _ rfl (HO1.out.alloc _) ⟨w1.heap.size, 0, none⟩ 1 1 [.int .i64 z, .string s] rfl rfl (cell_pair_new _ _ _ _) (fun u hu => by simp at hu; rcases hu with rfl | rfl <;> rfl) (by unfold maxLen; omega) (by omega) (by have := hB1.size; simp; omega) ?_)
              intro v2 w2 hown2 hgrow2 hnil2
              obtain ⟨g2, cap2, hg2b, rfl⟩ := notNil hown2 hnil2
              have hB2 : Below w.heap.size w w2 := (hB1.alloc hB1.size _).grown hgrow2 (by have := hB1.size; simp; omega) (fun j ej => by cases ej; exact hg1b)
              have HX2 := Lib.hid (HX.out.below hB2)
              have HO2 := Lib.hid hown2
              clear hown2 hgrow2 hnil2

              go_wp2_with (at_builtin; refine wpList_append_own _ rfl _ _ 23 rfl w.heap.size TI i0 (.agg #[.int .i64 0, .string ByteArray.empty]) 2 24 Tryd.underlying23 hi hz0 hz1 hz2 rfl (by decide) _ _ _ rfl HO2.out ⟨g, 0, none⟩ (0) _ (termsV (ts.drop (k + 1))) rfl (by rw [List.drop_of_length_le (by rw [HN.out]; omega)]; show 0 = _; omega) (fun j u h => by rw [List.drop_of_length_le (by rw [HN.out]; omega)] at h; simp [termsV] at h) (oneCell_terms _) (by unfold maxLen; omega) (by omega) hB2.size ?_)
              intro v3 w3 hown3 hgrow3 hnil3
              obtain ⟨g3, cap3, hg3b, rfl⟩ := notNil hown3 hnil3
              have hB3 : Below w.heap.size w w3 := hB2.grown hgrow3 hB2.size (fun j ej => by cases ej; exact hg2b)
              have HO3 := Lib.hid hown3
              clear hown3 hgrow3 hnil3
              go_wp2
              go_ret

              have e1 : addT ts ⟨c, s⟩ = ts.take k ++ ([⟨z, s⟩] ++ ts.drop (k + 1)) := by rw [HA.out c, if_pos HS.out]; show _ ++ (nz ⟨c + t.c, s⟩ ++ _) = _; rw [HZ.out, len_nz1 HZ0.out]
              exact addEnd (us := addT ts ⟨c, s⟩) hB3 HO3.out (by rw [e1]; have h := lenCat1 ts k (k + 1) ⟨z, s⟩ (by rw [HN.out]; omega); rw [HN.out] at h; omega) (by rw [e1]; first | exact cat1 _ _ _ _ | exact cat3 _ _ _ _) (by rw [e1]; have h := lenCat1 ts k (k + 1) ⟨z, s⟩ (by rw [HN.out]; omega); rw [HN.out] at h; omega)
            · have hkn : k + 1 ≤ n := by omega
              go_wp2_with fail
              refine (l2Less_any _ _ _).mono ?_
              rintro e w' ⟨rfl, rfl⟩
              have hll := HL.out
              rw [hll]
              clear hll

              go_wp2_with (at_builtin; refine wpList_append_own _ rfl _ _ 23 rfl w.heap.size TI i0 (.agg #[.int .i64 0, .string ByteArray.empty]) 2 24 Tryd.underlying23 hi hz0 hz1 hz2 rfl (by decide) _ _ _ rfl hmade ⟨g, 0, none⟩ k cap (termsV (ts.take k)) rfl (HLt.out k (by omega)) (HCt.out k) (oneCell_terms _) (by unfold maxLen; omega) (by omega) (by simp) ?_)
              intro v1 w1 hown1 hgrow1 hnil1
              obtain ⟨g1, cap1, hg1b, rfl⟩ := notNil hown1 hnil1
              have hB1 : Below w.heap.size w w1 := ((Below.refl _ w).alloc (Nat.le_refl _) _).grown hgrow1 (by simp) (fun j ej => by cases ej; exact Nat.le_refl _)
              have HX1 := Lib.hid (HX.out.below hB1)
              have HO1 := Lib.hid hown1
              clear hown1 hgrow1 hnil1

              have r0 := (hB1.cell (p := ⟨g, k * 2, none⟩) HX.out.1).trans q0
              have r1 := (hB1.cell (p := ⟨g, k * 2 + 1, none⟩) HX.out.1).trans q1

              go_wp2_with (at_builtin; refine wpList_append_own _ rfl _ _ 23 rfl w.heap.size TI i0 (.agg #[.int .i64 0, .string ByteArray.empty]) 2 24 Tryd.underlying23 hi hz0 hz1 hz2 rfl (by decide) _ _ _ rfl (HO1.out.alloc _) ⟨w1.heap.size, 0, none⟩ 1 1 [.int .i64 z, .string s] rfl rfl (cell_pair_new _ _ _ _) (fun u hu => by simp at hu; rcases hu with rfl | rfl <;> rfl) (by unfold maxLen; omega) (by omega) (by have := hB1.size; simp; omega) ?_)
              intro v2 w2 hown2 hgrow2 hnil2
              obtain ⟨g2, cap2, hg2b, rfl⟩ := notNil hown2 hnil2
              have hB2 : Below w.heap.size w w2 := (hB1.alloc hB1.size _).grown hgrow2 (by have := hB1.size; simp; omega) (fun j ej => by cases ej; exact hg1b)
              have HX2 := Lib.hid (HX.out.below hB2)
              have HO2 := Lib.hid hown2
              clear hown2 hgrow2 hnil2

              go_wp2_with (at_builtin; refine wpList_append_own _ rfl _ _ 23 rfl w.heap.size TI i0 (.agg #[.int .i64 0, .string ByteArray.empty]) 2 24 Tryd.underlying23 hi hz0 hz1 hz2 rfl (by decide) _ _ _ rfl HO2.out ⟨g, (k + 1) * 2, none⟩ (n - (k + 1)) _ (termsV (ts.drop (k + 1))) rfl (by rw [termsV_len, List.length_drop, HN.out]; first | done | omega) ((HX2.out.dropAt (k + 1)).cells) (oneCell_terms _) (by unfold maxLen; omega) (by omega) hB2.size ?_)
              intro v3 w3 hown3 hgrow3 hnil3
              obtain ⟨g3, cap3, hg3b, rfl⟩ := notNil hown3 hnil3
              have hB3 : Below w.heap.size w w3 := hB2.grown hgrow3 hB2.size (fun j ej => by cases ej; exact hg2b)
              have HO3 := Lib.hid hown3
              clear hown3 hgrow3 hnil3
              go_wp2
              go_ret

              have e1 : addT ts ⟨c, s⟩ = ts.take k ++ ([⟨z, s⟩] ++ ts.drop (k + 1)) := by rw [HA.out c, if_pos HS.out]; show _ ++ (nz ⟨c + t.c, s⟩ ++ _) = _; rw [HZ.out, len_nz1 HZ0.out]
              exact addEnd (us := addT ts ⟨c, s⟩) hB3 HO3.out (by rw [e1]; have h := lenCat1 ts k (k + 1) ⟨z, s⟩ (by rw [HN.out]; omega); rw [HN.out] at h; omega) (by rw [e1]; first | exact cat1 _ _ _ _ | exact cat3 _ _ _ _) (by rw [e1]; have h := lenCat1 ts k (k + 1) ⟨z, s⟩ (by rw [HN.out]; omega); rw [HN.out] at h; omega)
        · have HS := Lib.hid hts
          have hst : (t.s.toList == s.toList) = false := by
            rw [beq_eq_false_iff_ne]; exact fun e => HS.out (bytes_ext2 e)
          clear hts
          by_cases hz0 : c = 0
          · have HZ0 := Lib.hid hz0
            have hzb : (c != 0) = false := by rw [hz0]; rfl
            clear hz0
            go_wp2_with fail
            refine (l2Less_any _ _ _).mono ?_
            rintro e w' ⟨rfl, rfl⟩
            have hll := HL.out
            rw [hll]
            clear hll

            go_wp2_with (at_builtin; refine wpList_append_own _ rfl _ _ 23 rfl w.heap.size TI i0 (.agg #[.int .i64 0, .string ByteArray.empty]) 2 24 Tryd.underlying23 hi hz0 hz1 hz2 rfl (by decide) _ _ _ rfl hmade ⟨g, 0, none⟩ k cap (termsV (ts.take k)) rfl (HLt.out k (by omega)) (HCt.out k) (oneCell_terms _) (by unfold maxLen; omega) (by omega) (by simp) ?_)
            intro v1 w1 hown1 hgrow1 hnil1
            obtain ⟨g1, cap1, hg1b, rfl⟩ := notNil hown1 hnil1
            have hB1 : Below w.heap.size w w1 := ((Below.refl _ w).alloc (Nat.le_refl _) _).grown hgrow1 (by simp) (fun j ej => by cases ej; exact Nat.le_refl _)
            have HX1 := Lib.hid (HX.out.below hB1)
            have HO1 := Lib.hid hown1
            clear hown1 hgrow1 hnil1

            have r0 := (hB1.cell (p := ⟨g, k * 2, none⟩) HX.out.1).trans q0
            have r1 := (hB1.cell (p := ⟨g, k * 2 + 1, none⟩) HX.out.1).trans q1

            go_wp2_with (at_builtin; refine wpList_append_own _ rfl _ _ 23 rfl w.heap.size TI i0 (.agg #[.int .i64 0, .string ByteArray.empty]) 2 24 Tryd.underlying23 hi hz0 hz1 hz2 rfl (by decide) _ _ _ rfl HO1.out ⟨g, (k) * 2, none⟩ (n - (k)) _ (termsV (ts.drop (k))) rfl (by rw [termsV_len, List.length_drop, HN.out]; first | done | omega) ((HX1.out.dropAt (k)).cells) (oneCell_terms _) (by unfold maxLen; omega) (by omega) hB1.size ?_)
            intro v3 w3 hown3 hgrow3 hnil3
            obtain ⟨g3, cap3, hg3b, rfl⟩ := notNil hown3 hnil3
            have hB3 : Below w.heap.size w w3 := hB1.grown hgrow3 hB1.size (fun j ej => by cases ej; exact hg1b)
            have HO3 := Lib.hid hown3
            clear hown3 hgrow3 hnil3
            go_wp2
            go_ret

            have e1 : addT ts ⟨c, s⟩ = ts.take k ++ ([] ++ ts.drop k) := by rw [HA.out c, if_neg HS.out, len_nz0 HZ0.out]
            exact addEnd (us := addT ts ⟨c, s⟩) hB3 HO3.out (by rw [e1]; have h := lenCat0 ts k (k) (by rw [HN.out]; omega); rw [HN.out] at h; omega) (by rw [e1]; first | exact cat0 _ _ | exact cat2 _ _) (by rw [e1]; have h := lenCat0 ts k (k) (by rw [HN.out]; omega); rw [HN.out] at h; omega)
          · have HZ0 := Lib.hid hz0
            have hzb : (c != 0) = true := by simpa using hz0
            clear hz0
            go_wp2_with fail
            refine (l2Less_any _ _ _).mono ?_
            rintro e w' ⟨rfl, rfl⟩
            have hll := HL.out
            rw [hll]
            clear hll

            go_wp2_with (at_builtin; refine wpList_append_own _ rfl _ _ 23 rfl w.heap.size TI i0 (.agg #[.int .i64 0, .string ByteArray.empty]) 2 24 Tryd.underlying23 hi hz0 hz1 hz2 rfl (by decide) _ _ _ rfl hmade ⟨g, 0, none⟩ k cap (termsV (ts.take k)) rfl (HLt.out k (by omega)) (HCt.out k) (oneCell_terms _) (by unfold maxLen; omega) (by omega) (by simp) ?_)
            intro v1 w1 hown1 hgrow1 hnil1
            obtain ⟨g1, cap1, hg1b, rfl⟩ := notNil hown1 hnil1
            have hB1 : Below w.heap.size w w1 := ((Below.refl _ w).alloc (Nat.le_refl _) _).grown hgrow1 (by simp) (fun j ej => by cases ej; exact Nat.le_refl _)
            have HX1 := Lib.hid (HX.out.below hB1)
            have HO1 := Lib.hid hown1
            clear hown1 hgrow1 hnil1

            have r0 := (hB1.cell (p := ⟨g, k * 2, none⟩) HX.out.1).trans q0
            have r1 := (hB1.cell (p := ⟨g, k * 2 + 1, none⟩) HX.out.1).trans q1

            go_wp2_with (at_builtin; refine wpList_append_own _ rfl _ _ 23 rfl w.heap.size TI i0 (.agg #[.int .i64 0, .string ByteArray.empty]) 2 24 Tryd.underlying23 hi hz0 hz1 hz2 rfl (by decide) _ _ _ rfl (HO1.out.alloc _) ⟨w1.heap.size, 0, none⟩ 1 1 [.int .i64 c, .string s] rfl rfl (cell_pair_new _ _ _ _) (fun u hu => by simp at hu; rcases hu with rfl | rfl <;> rfl) (by unfold maxLen; omega) (by omega) (by have := hB1.size; simp; omega) ?_)
            intro v2 w2 hown2 hgrow2 hnil2
            obtain ⟨g2, cap2, hg2b, rfl⟩ := notNil hown2 hnil2
            have hB2 : Below w.heap.size w w2 := (hB1.alloc hB1.size _).grown hgrow2 (by have := hB1.size; simp; omega) (fun j ej => by cases ej; exact hg1b)
            have HX2 := Lib.hid (HX.out.below hB2)
            have HO2 := Lib.hid hown2
            clear hown2 hgrow2 hnil2

            go_wp2_with (at_builtin; refine wpList_append_own _ rfl _ _ 23 rfl w.heap.size TI i0 (.agg #[.int .i64 0, .string ByteArray.empty]) 2 24 Tryd.underlying23 hi hz0 hz1 hz2 rfl (by decide) _ _ _ rfl HO2.out ⟨g, (k) * 2, none⟩ (n - (k)) _ (termsV (ts.drop (k))) rfl (by rw [termsV_len, List.length_drop, HN.out]; first | done | omega) ((HX2.out.dropAt (k)).cells) (oneCell_terms _) (by unfold maxLen; omega) (by omega) hB2.size ?_)
            intro v3 w3 hown3 hgrow3 hnil3
            obtain ⟨g3, cap3, hg3b, rfl⟩ := notNil hown3 hnil3
            have hB3 : Below w.heap.size w w3 := hB2.grown hgrow3 hB2.size (fun j ej => by cases ej; exact hg2b)
            have HO3 := Lib.hid hown3
            clear hown3 hgrow3 hnil3
            go_wp2
            go_ret

            have e1 : addT ts ⟨c, s⟩ = ts.take k ++ ([⟨c, s⟩] ++ ts.drop k) := by rw [HA.out c, if_neg HS.out, len_nz1 HZ0.out]
            exact addEnd (us := addT ts ⟨c, s⟩) hB3 HO3.out (by rw [e1]; have h := lenCat1 ts k (k) ⟨c, s⟩ (by rw [HN.out]; omega); rw [HN.out] at h; omega) (by rw [e1]; first | exact cat1 _ _ _ _ | exact cat3 _ _ _ _) (by rw [e1]; have h := lenCat1 ts k (k) ⟨c, s⟩ (by rw [HN.out]; omega); rw [HN.out] at h; omega)
    · obtain rfl : k = n := by omega
      have HE := Lib.hid (fun c' => addT_end (ts := ts) (t := ⟨c', s⟩) (fun j hj => HJ.out j hj (by rw [← HN.out]; exact hj)))
      by_cases hcap0 : cap = 0
      · obtain rfl : k = 0 := by omega
        have HTn : Hid (ts = []) := Lib.hid (List.length_eq_zero_iff.1 HN.out)
        subst hcap0
        have HM := Lib.hid hmade
        clear hmade
        by_cases hz0 : c = 0
        · have HZ0 := Lib.hid hz0
          have hzb : (c != 0) = false := by rw [hz0]; rfl
          clear hz0
          go_wp2
          go_ret
          have e1 : addT ts ⟨c, s⟩ = [] := by rw [HTn.out, addT, len_nz0 HZ0.out]
          exact addEnd (us := addT ts ⟨c, s⟩) ((Below.refl _ w).alloc (Nat.le_refl _) _) HM.out (by rw [e1]; rfl) (by rw [e1]; rfl) (by rw [e1]; rfl)
        · have HZ0 := Lib.hid hz0
          have hzb : (c != 0) = true := by simpa using hz0
          clear hz0
          have HPN := Lib.hid (cell_pair_new (w.alloc (.cells #[] TI)) (.int .i64 c) (.string s) TI)
          simp only [World.size_alloc] at HPN

          go_wp2_with (at_builtin; refine wpList_append_own _ rfl _ _ 23 rfl w.heap.size TI i0 (.agg #[.int .i64 0, .string ByteArray.empty]) 2 24 Tryd.underlying23 hi hz0 hz1 hz2 rfl (by decide) _ _ _ rfl (HM.out.alloc _) ⟨w.heap.size + 1, 0, none⟩ 1 1 [.int .i64 c, .string s] rfl rfl (HPN.out) (fun u hu => by simp at hu; rcases hu with rfl | rfl <;> rfl) (by unfold maxLen; omega) (by omega) (by simp; omega) ?_)
          intro v2 w2 hown2 hgrow2 hnil2
          obtain ⟨g2, cap2, hg2b, rfl⟩ := notNil hown2 hnil2
          have hB2 : Below w.heap.size w w2 := (((Below.refl _ w).alloc (Nat.le_refl _) _).alloc (by simp) _).grown hgrow2 (by simp; omega) (fun j ej => by cases ej; exact Nat.le_refl _)
          have HO2 := Lib.hid hown2
          clear hown2 hgrow2 hnil2
          go_wp2_with (at_builtin; refine wpList_append_own _ rfl _ _ 23 rfl w.heap.size TI i0 (.agg #[.int .i64 0, .string ByteArray.empty]) 2 24 Tryd.underlying23 hi hz0 hz1 hz2 rfl (by decide) _ _ _ rfl HO2.out ⟨g, 0, none⟩ 0 _ [] rfl rfl (fun j u h => by simp at h) (fun u hu => by cases hu) (by unfold maxLen; omega) (by omega) hB2.size ?_)
          intro v3 w3 hown3 hgrow3 hnil3
          obtain ⟨g3, cap3, hg3b, rfl⟩ := notNil hown3 hnil3
          have hB3 : Below w.heap.size w w3 := hB2.grown hgrow3 hB2.size (fun j ej => by cases ej; exact hg2b)
          have HO3 := Lib.hid hown3
          clear hown3 hgrow3 hnil3
          go_wp2
          go_ret
          have e1 : addT ts ⟨c, s⟩ = [⟨c, s⟩] := by rw [HTn.out, addT, len_nz1 HZ0.out]
          exact addEnd (us := addT ts ⟨c, s⟩) hB3 HO3.out (by rw [e1]; rfl) (by rw [e1]; rfl) (by rw [e1]; rfl)
      by_cases hz0 : c = 0
      · have HZ0 := Lib.hid hz0
        have hzb : (c != 0) = false := by rw [hz0]; rfl
        clear hz0
        by_cases hck : cap = k
        · have hck2 := hck.symm
          clear hck
          subst hck2
          go_wp2_with (at_builtin; refine wpList_append_own _ rfl _ _ 23 rfl w.heap.size TI i0 (.agg #[.int .i64 0, .string ByteArray.empty]) 2 24 Tryd.underlying23 hi hz0 hz1 hz2 rfl (by decide) _ _ _ rfl hmade ⟨g, 0, none⟩ k k (termsV (ts.take k)) rfl (HLt.out k (by omega)) (HCt.out k) (oneCell_terms _) (by unfold maxLen; omega) (by omega) (by simp) ?_)
          intro v1 w1 hown1 hgrow1 hnil1
          obtain ⟨g1, cap1, hg1b, rfl⟩ := notNil hown1 hnil1
          have hB1 : Below w.heap.size w w1 := ((Below.refl _ w).alloc (Nat.le_refl _) _).grown hgrow1 (by simp) (fun j ej => by cases ej; exact Nat.le_refl _)
          have HX1 := Lib.hid (HX.out.below hB1)
          have HO1 := Lib.hid hown1
          clear hown1 hgrow1 hnil1

          go_wp2_with (at_builtin; refine wpList_append_own _ rfl _ _ 23 rfl w.heap.size TI i0 (.agg #[.int .i64 0, .string ByteArray.empty]) 2 24 Tryd.underlying23 hi hz0 hz1 hz2 rfl (by decide) _ _ _ rfl HO1.out ⟨g, 0, none⟩ (0) _ (termsV (ts.drop k)) rfl (by rw [List.drop_of_length_le (by rw [HN.out]; omega)]; show 0 = _; omega) (fun j u h => by rw [List.drop_of_length_le (by rw [HN.out]; omega)] at h; simp [termsV] at h) (oneCell_terms _) (by unfold maxLen; omega) (by omega) hB1.size ?_)
          intro v3 w3 hown3 hgrow3 hnil3
          obtain ⟨g3, cap3, hg3b, rfl⟩ := notNil hown3 hnil3
          have hB3 : Below w.heap.size w w3 := hB1.grown hgrow3 hB1.size (fun j ej => by cases ej; exact hg1b)
          have HO3 := Lib.hid hown3
          clear hown3 hgrow3 hnil3
          go_wp2
          go_ret

          have e1 : addT ts ⟨c, s⟩ = ts.take k ++ ([] ++ ts.drop k) := by rw [HE.out c, len_nz0 HZ0.out, List.take_of_length_le (by rw [HN.out]; exact Nat.le_refl _), List.drop_of_length_le (by rw [HN.out]; exact Nat.le_refl _)]; rfl
          exact addEnd (us := addT ts ⟨c, s⟩) hB3 HO3.out (by rw [e1]; have h := lenCat0 ts k (k) (by rw [HN.out]; omega); rw [HN.out] at h; omega) (by rw [e1]; first | exact cat0 _ _ | exact cat2 _ _) (by rw [e1]; have h := lenCat0 ts k (k) (by rw [HN.out]; omega); rw [HN.out] at h; omega)
        · have hcp := hcap
          go_wp2_with (at_builtin; refine wpList_append_own _ rfl _ _ 23 rfl w.heap.size TI i0 (.agg #[.int .i64 0, .string ByteArray.empty]) 2 24 Tryd.underlying23 hi hz0 hz1 hz2 rfl (by decide) _ _ _ rfl hmade ⟨g, 0, none⟩ k cap (termsV (ts.take k)) rfl (HLt.out k (by omega)) (HCt.out k) (oneCell_terms _) (by unfold maxLen; omega) (by omega) (by simp) ?_)
          intro v1 w1 hown1 hgrow1 hnil1
          obtain ⟨g1, cap1, hg1b, rfl⟩ := notNil hown1 hnil1
          have hB1 : Below w.heap.size w w1 := ((Below.refl _ w).alloc (Nat.le_refl _) _).grown hgrow1 (by simp) (fun j ej => by cases ej; exact Nat.le_refl _)
          have HX1 := Lib.hid (HX.out.below hB1)
          have HO1 := Lib.hid hown1
          clear hown1 hgrow1 hnil1

          go_wp2_with (at_builtin; refine wpList_append_own _ rfl _ _ 23 rfl w.heap.size TI i0 (.agg #[.int .i64 0, .string ByteArray.empty]) 2 24 Tryd.underlying23 hi hz0 hz1 hz2 rfl (by decide) _ _ _ rfl HO1.out ⟨g, (k) * 2, none⟩ (0) _ (termsV (ts.drop k)) rfl (by rw [termsV_len, List.length_drop, HN.out]; first | done | omega) ((HX1.out.dropAt k).cells) (oneCell_terms _) (by unfold maxLen; omega) (by omega) hB1.size ?_)
          intro v3 w3 hown3 hgrow3 hnil3
          obtain ⟨g3, cap3, hg3b, rfl⟩ := notNil hown3 hnil3
          have hB3 : Below w.heap.size w w3 := hB1.grown hgrow3 hB1.size (fun j ej => by cases ej; exact hg1b)
          have HO3 := Lib.hid hown3
          clear hown3 hgrow3 hnil3
          go_wp2
          go_ret

          have e1 : addT ts ⟨c, s⟩ = ts.take k ++ ([] ++ ts.drop k) := by rw [HE.out c, len_nz0 HZ0.out, List.take_of_length_le (by rw [HN.out]; exact Nat.le_refl _), List.drop_of_length_le (by rw [HN.out]; exact Nat.le_refl _)]; rfl
          exact addEnd (us := addT ts ⟨c, s⟩) hB3 HO3.out (by rw [e1]; have h := lenCat0 ts k (k) (by rw [HN.out]; omega); rw [HN.out] at h; omega) (by rw [e1]; first | exact cat0 _ _ | exact cat2 _ _) (by rw [e1]; have h := lenCat0 ts k (k) (by rw [HN.out]; omega); rw [HN.out] at h; omega)
      · have HZ0 := Lib.hid hz0
        have hzb : (c != 0) = true := by simpa using hz0
        clear hz0
        by_cases hck : cap = k
        · have hck2 := hck.symm
          clear hck
          subst hck2
          go_wp2_with (at_builtin; refine wpList_append_own _ rfl _ _ 23 rfl w.heap.size TI i0 (.agg #[.int .i64 0, .string ByteArray.empty]) 2 24 Tryd.underlying23 hi hz0 hz1 hz2 rfl (by decide) _ _ _ rfl hmade ⟨g, 0, none⟩ k k (termsV (ts.take k)) rfl (HLt.out k (by omega)) (HCt.out k) (oneCell_terms _) (by unfold maxLen; omega) (by omega) (by simp) ?_)
          intro v1 w1 hown1 hgrow1 hnil1
          obtain ⟨g1, cap1, hg1b, rfl⟩ := notNil hown1 hnil1
          have hB1 : Below w.heap.size w w1 := ((Below.refl _ w).alloc (Nat.le_refl _) _).grown hgrow1 (by simp) (fun j ej => by cases ej; exact Nat.le_refl _)
          have HX1 := Lib.hid (HX.out.below hB1)
          have HO1 := Lib.hid hown1
          clear hown1 hgrow1 hnil1

          go_wp2_with (at_builtin; refine wpList_append_own _ rfl _ _ 23 rfl w.heap.size TI i0 (.agg #[.int .i64 0, .string ByteArray.empty]) 2 24 Tryd.underlying23 hi hz0 hz1 hz2 rfl (by decide) _ _ _ rfl (HO1.out.alloc _) ⟨w1.heap.size, 0, none⟩ 1 1 [.int .i64 c, .string s] rfl rfl (cell_pair_new _ _ _ _) (fun u hu => by simp at hu; rcases hu with rfl | rfl <;> rfl) (by unfold maxLen; omega) (by omega) (by have := hB1.size; simp; omega) ?_)
          intro v2 w2 hown2 hgrow2 hnil2
          obtain ⟨g2, cap2, hg2b, rfl⟩ := notNil hown2 hnil2
          have hB2 : Below w.heap.size w w2 := (hB1.alloc hB1.size _).grown hgrow2 (by have := hB1.size; simp; omega) (fun j ej => by cases ej; exact hg1b)
          have HX2 := Lib.hid (HX.out.below hB2)
          have HO2 := Lib.hid hown2
          clear hown2 hgrow2 hnil2

          go_wp2_with (at_builtin; refine wpList_append_own _ rfl _ _ 23 rfl w.heap.size TI i0 (.agg #[.int .i64 0, .string ByteArray.empty]) 2 24 Tryd.underlying23 hi hz0 hz1 hz2 rfl (by decide) _ _ _ rfl HO2.out ⟨g, 0, none⟩ (0) _ (termsV (ts.drop k)) rfl (by rw [List.drop_of_length_le (by rw [HN.out]; omega)]; show 0 = _; omega) (fun j u h => by rw [List.drop_of_length_le (by rw [HN.out]; omega)] at h; simp [termsV] at h) (oneCell_terms _) (by unfold maxLen; omega) (by omega) hB2.size ?_)
          intro v3 w3 hown3 hgrow3 hnil3
          obtain ⟨g3, cap3, hg3b, rfl⟩ := notNil hown3 hnil3
          have hB3 : Below w.heap.size w w3 := hB2.grown hgrow3 hB2.size (fun j ej => by cases ej; exact hg2b)
          have HO3 := Lib.hid hown3
          clear hown3 hgrow3 hnil3
          go_wp2
          go_ret

          have e1 : addT ts ⟨c, s⟩ = ts.take k ++ ([⟨c, s⟩] ++ ts.drop k) := by rw [HE.out c, len_nz1 HZ0.out, List.take_of_length_le (by rw [HN.out]; exact Nat.le_refl _), List.drop_of_length_le (by rw [HN.out]; exact Nat.le_refl _)]; rfl
          exact addEnd (us := addT ts ⟨c, s⟩) hB3 HO3.out (by rw [e1]; have h := lenCat1 ts k (k) ⟨c, s⟩ (by rw [HN.out]; omega); rw [HN.out] at h; omega) (by rw [e1]; first | exact cat1 _ _ _ _ | exact cat3 _ _ _ _) (by rw [e1]; have h := lenCat1 ts k (k) ⟨c, s⟩ (by rw [HN.out]; omega); rw [HN.out] at h; omega)
        · have hcp := hcap
          go_wp2_with (at_builtin; refine wpList_append_own _ rfl _ _ 23 rfl w.heap.size TI i0 (.agg #[.int .i64 0, .string ByteArray.empty]) 2 24 Tryd.underlying23 hi hz0 hz1 hz2 rfl (by decide) _ _ _ rfl hmade ⟨g, 0, none⟩ k cap (termsV (ts.take k)) rfl (HLt.out k (by omega)) (HCt.out k) (oneCell_terms _) (by unfold maxLen; omega) (by omega) (by simp) ?_)
          intro v1 w1 hown1 hgrow1 hnil1
          obtain ⟨g1, cap1, hg1b, rfl⟩ := notNil hown1 hnil1
          have hB1 : Below w.heap.size w w1 := ((Below.refl _ w).alloc (Nat.le_refl _) _).grown hgrow1 (by simp) (fun j ej => by cases ej; exact Nat.le_refl _)
          have HX1 := Lib.hid (HX.out.below hB1)
          have HO1 := Lib.hid hown1
          clear hown1 hgrow1 hnil1

          go_wp2_with (at_builtin; refine wpList_append_own _ rfl _ _ 23 rfl w.heap.size TI i0 (.agg #[.int .i64 0, .string ByteArray.empty]) 2 24 Tryd.underlying23 hi hz0 hz1 hz2 rfl (by decide) _ _ _ rfl (HO1.out.alloc _) ⟨w1.heap.size, 0, none⟩ 1 1 [.int .i64 c, .string s] rfl rfl (cell_pair_new _ _ _ _) (fun u hu => by simp at hu; rcases hu with rfl | rfl <;> rfl) (by unfold maxLen; omega) (by omega) (by have := hB1.size; simp; omega) ?_)
          intro v2 w2 hown2 hgrow2 hnil2
          obtain ⟨g2, cap2, hg2b, rfl⟩ := notNil hown2 hnil2
          have hB2 : Below w.heap.size w w2 := (hB1.alloc hB1.size _).grown hgrow2 (by have := hB1.size; simp; omega) (fun j ej => by cases ej; exact hg1b)
          have HX2 := Lib.hid (HX.out.below hB2)
          have HO2 := Lib.hid hown2
          clear hown2 hgrow2 hnil2

          go_wp2_with (at_builtin; refine wpList_append_own _ rfl _ _ 23 rfl w.heap.size TI i0 (.agg #[.int .i64 0, .string ByteArray.empty]) 2 24 Tryd.underlying23 hi hz0 hz1 hz2 rfl (by decide) _ _ _ rfl HO2.out ⟨g, (k) * 2, none⟩ (0) _ (termsV (ts.drop k)) rfl (by rw [termsV_len, List.length_drop, HN.out]; first | done | omega) ((HX2.out.dropAt k).cells) (oneCell_terms _) (by unfold maxLen; omega) (by omega) hB2.size ?_)
          intro v3 w3 hown3 hgrow3 hnil3
          obtain ⟨g3, cap3, hg3b, rfl⟩ := notNil hown3 hnil3
          have hB3 : Below w.heap.size w w3 := hB2.grown hgrow3 hB2.size (fun j ej => by cases ej; exact hg2b)
          have HO3 := Lib.hid hown3
          clear hown3 hgrow3 hnil3
          go_wp2
          go_ret

          have e1 : addT ts ⟨c, s⟩ = ts.take k ++ ([⟨c, s⟩] ++ ts.drop k) := by rw [HE.out c, len_nz1 HZ0.out, List.take_of_length_le (by rw [HN.out]; exact Nat.le_refl _), List.drop_of_length_le (by rw [HN.out]; exact Nat.le_refl _)]; rfl
          exact addEnd (us := addT ts ⟨c, s⟩) hB3 HO3.out (by rw [e1]; have h := lenCat1 ts k (k) ⟨c, s⟩ (by rw [HN.out]; omega); rw [HN.out] at h; omega) (by rw [e1]; first | exact cat1 _ _ _ _ | exact cat3 _ _ _ _) (by rw [e1]; have h := lenCat1 ts k (k) ⟨c, s⟩ (by rw [HN.out]; omega); rw [HN.out] at h; omega)

end Go.Proofs.YtdhmicpoigoleabDoor

/- The contracts of the model's 'l2Done' and 'SumOf'. -/

namespace Go.Proofs.YtdhmicpoigoleabDoor
open Go.RowKit Go.Shelf

/-- A slice value of the call's own that holds terms; nil where there are none, maybe. -/
def OwnT (base : Nat) (w : World) (v : Value) (ts : List Tm) : Prop := w.ownsRow base TI 2 v ts.length (termsV ts)
theorem OwnTerms.own {base : Nat} {w : World} {v : Value} {ts : List Tm} (h : OwnTerms base w v ts) : OwnT base w v ts := by obtain ⟨g, cap, _, h⟩ := h; exact h
theorem OwnT.mono {b1 b2 : Nat} {w : World} {v : Value} {ts : List Tm} (h : OwnT b1 w v ts) (hb : b2 ≤ b1) : OwnT b2 w v ts := ownsRow_base h hb
theorem OwnT.below {base : Nat} {w w' : World} {v : Value} {ts : List Tm} (h : OwnT base w v ts) (hb : Below w.heap.size w w') : OwnT base w' v ts :=
  h.kept ⟨hb.os, hb.tape, hb.output, hb.size, fun j hj _ => hb.block j hj⟩ (row := none) (by
    rcases h.2 with ⟨rfl, _⟩ | ⟨g, cap, cur, rfl, _⟩
    · exact .inl rfl
    · exact .inr (by simp [Value.ownBlock]))
theorem OwnTerms.below {base : Nat} {w w' : World} {v : Value} {ts : List Tm} (h : OwnTerms base w v ts) (hb : Below w.heap.size w w') : OwnTerms base w' v ts := by
  have h2 := h.own.below hb
  obtain ⟨g, cap, e, _⟩ := h
  exact ⟨g, cap, e, h2⟩
theorem OwnTerms.mono {b1 b2 : Nat} {w : World} {v : Value} {ts : List Tm} (h : OwnTerms b1 w v ts) (hb : b2 ≤ b1) : OwnTerms b2 w v ts := by
  obtain ⟨g, cap, e, h⟩ := h
  exact ⟨g, cap, e, ownsRow_base h hb⟩
/-- What fits into an integer of 64 bits and into a text. -/
def SmallT (ts : List Tm) : Prop := ts.length ≤ maxLen ∧ ∀ t ∈ ts, t.s.size ≤ maxLen ∧ -9223372036854775808 ≤ t.c ∧ t.c ≤ 9223372036854775807
theorem OwnT.isTerms {base : Nat} {w : World} {v : Value} {ts : List Tm} (h : OwnT base w v ts) (hs : SmallT ts) : ∃ a cap, v = .slice a ts.length cap ∧ IsTerms w a ts.length ts := by
  rcases h.2 with ⟨rfl, h0⟩ | ⟨g, cap, cur, rfl, hb, hg, hn, hc, _⟩
  · exact ⟨none, 0, by rw [h0], rfl, hs.1, fun hp => absurd hp (by omega), hs.2⟩
  · exact ⟨_, cap, rfl, rfl, hs.1, fun _ => ⟨_, rfl, termsAt_of_owns rfl h⟩, hs.2⟩
theorem OwnTerms.form {base : Nat} {w : World} {v : Value} {ts : List Tm} (h : OwnTerms base w v ts) : ∃ g cap, v = .slice (some ⟨g, 0, none⟩) ts.length cap ∧ TermsAt w ⟨g, 0, none⟩ ts ∧ ts.length ≤ cap ∧ cap ≤ maxLen ∧ base ≤ g := by
  obtain ⟨g, cap, rfl, h⟩ := h
  obtain ⟨h1, h2, h3, _⟩ := ownsRow_cap h
  exact ⟨g, cap, rfl, termsAt_of_owns rfl h, h1, h2, h3⟩
theorem ownEmpty (w : World) : OwnTerms w.heap.size (w.alloc (.cells #[] TI)) (.slice (some ⟨w.heap.size, 0, none⟩) 0 0) [] :=
  ⟨_, _, rfl, World.ownsRow_made w #[] 0 (Nat.le_refl _) (Nat.zero_le _) rfl⟩

theorem add_bound {t : Tm} {B C : Int} (hC : 0 ≤ C) (ht : -C ≤ t.c ∧ t.c ≤ C) : ∀ {ts : List Tm}, (∀ u ∈ ts, -B ≤ u.c ∧ u.c ≤ B) → 0 ≤ B → ∀ u ∈ addT ts t, -(B + C) ≤ u.c ∧ u.c ≤ B + C
  | [], _, hB, u, hu => by rw [addT] at hu; rw [(nz_mem hu).1]; omega
  | x :: r, h, hB, u, hu => by
    rw [addT] at hu
    have hx := h x (by simp)
    split at hu
    · rcases List.mem_cons.1 hu with rfl | hu
      · omega
      · exact add_bound hC ht (fun v hv => h v (by simp [hv])) hB u hu
    · split at hu
      · rcases List.mem_append.1 hu with hu | hu
        · rw [(nz_mem hu).1]; show -(B + C) ≤ t.c + x.c ∧ t.c + x.c ≤ B + C; omega
        · have := h u (by simp [hu]); omega
      · rcases List.mem_append.1 hu with hu | hu
        · rw [(nz_mem hu).1]; omega
        · have := h u hu; omega
theorem add_len (t : Tm) : ∀ ts : List Tm, (addT ts t).length ≤ ts.length + 1
  | [] => by rw [addT]; unfold nz; split <;> simp
  | x :: r => by
    have h0 : ∀ y : Tm, (nz y).length ≤ 1 := fun y => by unfold nz; split <;> simp
    rw [addT]
    split
    · have := add_len t r; simp only [List.length_cons]; omega
    · split
      · have := h0 ⟨t.c + x.c, t.s⟩; simp only [List.length_append, List.length_cons]; omega
      · have := h0 t; simp only [List.length_append, List.length_cons]; omega
theorem add_small {t : Tm} {ts : List Tm} {M : Nat} (ht : t.s.size ≤ M) (h : ∀ u ∈ ts, u.s.size ≤ M) : ∀ u ∈ addT ts t, u.s.size ≤ M := fun u hu => by
  rcases add_words hu with e | ⟨v, hv, e⟩
  · rw [e]; exact ht
  · rw [← e]; exact h v hv

/-- A list that grows term by term. -/
structure Acc (base : Nat) (w : World) (v : Value) (acc : List Tm) (N : Nat) (B : Int) : Prop where
  own : OwnTerms base w v acc
  len : acc.length ≤ N
  bnd : ∀ u ∈ acc, -B ≤ u.c ∧ u.c ≤ B
  sml : ∀ u ∈ acc, u.s.size ≤ 60
theorem Acc.below {base : Nat} {w w' : World} {v : Value} {acc : List Tm} {N : Nat} {B : Int} (h : Acc base w v acc N B) (hb : Below w.heap.size w w') : Acc base w' v acc N B := ⟨h.own.below hb, h.len, h.bnd, h.sml⟩
theorem Acc.small {base : Nat} {w : World} {v : Value} {acc : List Tm} {N : Nat} {B : Int} (h : Acc base w v acc N B) (hN : N ≤ 200000) (hB : B ≤ 4000000000000000000) : SmallT acc :=
  ⟨by have := h.len; unfold maxLen; omega, fun u hu => by
    have h1 := h.bnd u hu
    have h2 := h.sml u hu
    unfold maxLen
    omega⟩

/-- The model's step: one term more. -/
theorem step_any (base : Nat) (v : Value) (acc : List Tm) (N : Nat) (B C : Int) (c : Int) (s : ByteArray) (w : World) (h : Acc base w v acc N B) (hN : N ≤ 200000) (hB : 0 ≤ B) (hC : 0 ≤ C) (hBC : B + C ≤ 4000000000000000000)
    (hc : -C ≤ c ∧ c ≤ C) (hs : s.size ≤ 60) (hbase : base ≤ w.heap.size) :
    Calls Tryd.prog 17 #[v, .int .i64 c, .string s] w fun e w' => (∃ v', e = .returned v' ∧ Acc base w' v' (addT acc ⟨c, s⟩) (N + 1) (B + C)) ∧ Below w.heap.size w w' := by
  obtain ⟨g, cap, rfl, h1, h2, h3, h4⟩ := h.own.form
  refine (l2Add_any g cap acc.length acc c s w rfl (by have := h.len; omega) h1 h2 h3 (by omega) (by omega) (fun t ht => by have := h.bnd t ht; omega)).mono ?_
  rintro e w' ⟨⟨v', rfl, ho⟩, hb⟩
  exact ⟨⟨v', rfl, ho.mono hbase, by have := add_len ⟨c, s⟩ acc; have := h.len; omega, add_bound hC hc h.bnd hB, add_small hs h.sml⟩, hb⟩

/-- What a function of the model hands back: a list and true, or an empty one and false. -/
def STold (w : World) (b : Bool) (us : List Tm) (e : Ending) (w' : World) : Prop := (∃ v', e = .returned (.tuple #[v', .bool b]) ∧ OwnTerms w.heap.size w' v' (cond b us [])) ∧ Below w.heap.size w w'

end Go.Proofs.YtdhmicpoigoleabDoor

/- The contract of the model's 'SumOf'. -/

namespace Go.Proofs.YtdhmicpoigoleabDoor
open Go.RowKit Go.Shelf

theorem acc_zero (w : World) : Acc w.heap.size (w.alloc (.cells #[] TI)) (.slice (some ⟨w.heap.size, 0, none⟩) 0 0) [] 0 0 := ⟨ownEmpty w, Nat.le_refl _, fun u h => (by cases h), fun u h => (by cases h)⟩
theorem termB_iff {t : Tm} (h : termB t = true) : t.s.size ≤ 60 ∧ -1000000 ≤ t.c ∧ t.c ≤ 1000000 := by
  unfold termB inR at h
  simp only [Bool.and_eq_true, decide_eq_true_eq] at h
  exact ⟨by have := ((wordB_iff _).1 h.1).1; simpa using this, h.2⟩
theorem fold_succ (ts : List Tm) (k : Nat) (h : k < ts.length) : (ts.take (k + 1)).foldl addT [] = addT ((ts.take k).foldl addT []) ts[k] := by
  rw [List.take_succ_eq_append_getElem h, List.foldl_append]; rfl

/-- What SumOf answers. -/
def ofB (ts : List Tm) : Bool := twB ts && sumB (canonT ts)

end Go.Proofs.YtdhmicpoigoleabDoor

/- The contracts of the program's 'sumWords' and 'SumIn'. -/

namespace Go.Proofs.YtdhmicpoigoleabDoor
open Go.RowKit Go.Shelf

theorem sumB_eq (ts : List Tm) : sumB ts = (twB ts && !hasZero ts && ascB ts) := by
  have hg : ∀ j (h : j < ts.length), ts.getD j default = ts[j] := fun j h => by rw [List.getD_eq_getElem?_getD, List.getElem?_eq_getElem h]; rfl
  rw [Bool.eq_iff_iff]
  unfold sumB twB hasZero ascB allGood
  simp only [Bool.and_eq_true, List.all_eq_true, List.mem_range, decide_eq_true_eq, Bool.not_eq_true', List.any_eq_false]
  constructor
  · rintro ⟨h1, h2⟩
    refine ⟨⟨⟨h2, fun t ht => ?_⟩, fun t ht => ?_⟩, fun j hj => ?_⟩
    · obtain ⟨j, hj, rfl⟩ := List.getElem_of_mem ht
      have := h1 j hj
      unfold goodAt at this
      simp only [hg j hj, Bool.and_eq_true] at this
      unfold termB
      rw [this.1.2, this.1.1.2]; rfl
    · obtain ⟨j, hj, rfl⟩ := List.getElem_of_mem ht
      have := h1 j hj
      unfold goodAt at this
      simp only [hg j hj, Bool.and_eq_true] at this
      simpa using this.1.1.1
    · have := h1 j hj
      unfold goodAt at this
      simp only [Bool.and_eq_true] at this
      exact this.2
  · rintro ⟨⟨⟨h1, h2⟩, h3⟩, h4⟩
    refine ⟨fun j hj => ?_, h1⟩
    have a2 := h2 _ (List.getElem_mem hj)
    have a3 := h3 _ (List.getElem_mem hj)
    unfold termB at a2
    simp only [Bool.and_eq_true] at a2
    unfold goodAt
    simp only [hg j hj, Bool.and_eq_true]
    exact ⟨⟨⟨by simpa using a3, a2.2⟩, a2.1⟩, by have := h4 j hj; rw [hg j hj] at this; exact this⟩

end Go.Proofs.YtdhmicpoigoleabDoor

/- Canonical lists of terms are sums where their terms are as told. -/

namespace Go.Proofs.YtdhmicpoigoleabDoor
open Go.RowKit Go.Shelf

theorem canon_of (ts : List Tm) : Canon (canonT ts) := (canon_foldl ts [] ⟨List.Pairwise.nil, fun t h => by cases h⟩).1
theorem hasZero_canon {ts : List Tm} (h : Canon ts) : hasZero ts = false := by
  unfold hasZero
  refine List.any_eq_false.2 fun t ht => ?_
  simpa using h.2 t ht
theorem ascB_canon {ts : List Tm} (h : Canon ts) : ascB ts = true := by
  refine ascB_true fun k hk hk0 => ?_
  rw [List.getD_eq_getElem?_getD, List.getD_eq_getElem?_getD, List.getElem?_eq_getElem hk, List.getElem?_eq_getElem (by omega : k - 1 < ts.length)]
  exact List.pairwise_iff_getElem.1 h.1 (k - 1) k (by omega) hk (by omega)
theorem sumB_canon {ts : List Tm} (h : Canon ts) : sumB ts = twB ts := by
  rw [sumB_eq, hasZero_canon h, ascB_canon h]
  simp

theorem canon_len_words {ts : List Tm} (h : twB ts = true) : ts.length ≤ 300 ∧ ∀ t ∈ ts, termB t = true := by
  unfold twB at h
  simp only [Bool.and_eq_true, decide_eq_true_eq, List.all_eq_true] at h
  exact h

end Go.Proofs.YtdhmicpoigoleabDoor

/- The contract of the model's 'SumAdd'; sums as canonical lists. -/

namespace Go.Proofs.YtdhmicpoigoleabDoor
open Go.RowKit Go.Shelf

theorem pairwise_lessW {ts : List Tm} (h : ∀ k, k < ts.length → 0 < k → lessW (ts.getD (k - 1) default).s (ts.getD k default).s = true) : ts.Pairwise (fun a b => lessW a.s b.s = true) := by
  rw [List.pairwise_iff_getElem]
  have key : ∀ d i (hi : i < ts.length) (hj : i + (d + 1) < ts.length), lessW ts[i].s ts[i + (d + 1)].s = true := by
    intro d
    induction d with
    | zero =>
      intro i hi hj
      have := h (i + 1) hj (by omega)
      rw [show i + 1 - 1 = i by omega, List.getD_eq_getElem?_getD, List.getD_eq_getElem?_getD, List.getElem?_eq_getElem hj, List.getElem?_eq_getElem hi] at this
      exact this
    | succ d ih =>
      intro i hi hj
      have h1 := ih i hi (by omega)
      have h2 := h (i + (d + 1) + 1) hj (by omega)
      rw [show i + (d + 1) + 1 - 1 = i + (d + 1) by omega, List.getD_eq_getElem?_getD, List.getD_eq_getElem?_getD, List.getElem?_eq_getElem (by omega : i + (d + 1) < ts.length), List.getElem?_eq_getElem (by omega : i + (d + 1) + 1 < ts.length)] at h2
      exact lessW_trans h1 h2
  intro i j hi hj hij
  obtain ⟨d, rfl⟩ : ∃ d, j = i + (d + 1) := ⟨j - i - 1, by omega⟩
  exact key d i hi hj
theorem sumB_parts {ts : List Tm} (h : sumB ts = true) : twB ts = true ∧ Canon ts := by
  rw [sumB_eq] at h
  simp only [Bool.and_eq_true, Bool.not_eq_true'] at h
  obtain ⟨⟨h1, h2⟩, h3⟩ := h
  refine ⟨h1, pairwise_lessW fun k hk hk0 => ?_, fun t ht => ?_⟩
  · unfold ascB at h3
    have := List.all_eq_true.1 h3 k (List.mem_range.2 hk)
    simp only [Bool.or_eq_true, decide_eq_true_eq] at this
    rcases this with h | h
    · omega
    · exact h
  · unfold hasZero at h2
    have := List.any_eq_false.1 h2 t ht
    simpa using this
theorem canonT_of_canon {ts : List Tm} (h : Canon ts) : canonT ts = ts := (canonT_unique h fun _ => rfl).symm
theorem canonT_append {x : List Tm} (y : List Tm) (h : Canon x) : canonT (x ++ y) = y.foldl addT x := by
  have h2 := canonT_of_canon h
  unfold canonT at h2 ⊢
  rw [List.foldl_append, h2]
theorem fold_succ2 (x ts : List Tm) (k : Nat) (h : k < ts.length) : (ts.take (k + 1)).foldl addT x = addT ((ts.take k).foldl addT x) ts[k] := by
  rw [List.take_succ_eq_append_getElem h, List.foldl_append]; rfl

/-- What SumAdd answers. -/
def addB (x y : List Tm) : Bool := sumB x && (sumB y && twB (canonT (x ++ y)))

theorem acc_start {base : Nat} {w : World} {v : Value} {x : List Tm} (h : OwnTerms base w v x) (ht : twB x = true) : Acc base w v x 300 1000000 := by
  obtain ⟨h1, h2⟩ := canon_len_words ht
  exact ⟨h, h1, fun u hu => by have := (termB_iff (h2 u hu)).2; omega, fun u hu => (termB_iff (h2 u hu)).1⟩

theorem isTerms_cells {w : World} {ad : Addr} {n : Nat} {x : List Tm} (h : IsTerms w (some ad) n x) : ∀ j u, (termsV x)[j]? = some u → w.cell? (ad.add j) = some u := by
  intro j u hu
  rcases Nat.eq_zero_or_pos n with h0 | h0
  · have : x = [] := List.length_eq_zero_iff.1 (h.len.trans h0)
    subst this
    simp [termsV] at hu
  · obtain ⟨z, e, h2⟩ := h.at_ h0
    cases e
    exact h2.cells j u hu

end Go.Proofs.YtdhmicpoigoleabDoor

/- Derivatives of words as lists of terms in the order of letters; sums of such lists. -/

namespace Go.Proofs.YtdhmicpoigoleabDoor
open Go.RowKit

/-- The term of one letter behind p. -/
def foxT (g c : Int) (p : List UInt8) (x : UInt8) : List Tm := if (idxB x : Int) = g then [⟨c * sgnB x, bstr (if 97 ≤ x.toNat then p else p ++ [x])⟩] else []
/-- The terms of the first k letters. -/
def foxN (g c : Int) (l : List UInt8) : Nat → List Tm
  | 0 => []
  | k + 1 => foxN g c l k ++ foxT g c (l.take k) (l.getD k 0)
def foxL (g c : Int) (l : List UInt8) : List Tm := foxN g c l l.length
theorem foxN_succ (g c : Int) (l : List UInt8) (k : Nat) (hk : k < l.length) : foxN g c l (k + 1) = foxN g c l k ++ foxT g c (l.take k) l[k] := by
  rw [foxN, List.getD_eq_getElem?_getD, List.getElem?_eq_getElem hk]; rfl
theorem foxT_no {g c : Int} {p : List UInt8} {x : UInt8} (h : (idxB x : Int) ≠ g) : foxT g c p x = [] := if_neg h
theorem foxT_hi {g c : Int} {p : List UInt8} {x : UInt8} (h : (idxB x : Int) = g) (hx : 97 ≤ x.toNat) : foxT g c p x = [⟨c * sgnB x, bstr p⟩] := by
  unfold foxT; rw [if_pos h, if_pos hx]
theorem foxT_lo {g c : Int} {p : List UInt8} {x : UInt8} (h : (idxB x : Int) = g) (hx : ¬ 97 ≤ x.toNat) : foxT g c p x = [⟨c * sgnB x, bstr (p ++ [x])⟩] := by
  unfold foxT; rw [if_pos h, if_neg hx]
theorem sgnB_bnd (x : UInt8) : -1 ≤ sgnB x ∧ sgnB x ≤ 1 := by unfold sgnB; split <;> omega
theorem mul_sgn {c C : Int} (hc : -C ≤ c ∧ c ≤ C) (x : UInt8) : -C ≤ c * sgnB x ∧ c * sgnB x ≤ C := by
  unfold sgnB; split <;> omega
theorem foxN_len (g c : Int) (l : List UInt8) : ∀ k, (foxN g c l k).length ≤ k
  | 0 => Nat.le_refl _
  | k + 1 => by
    have := foxN_len g c l k
    rw [foxN, List.length_append]
    have h2 : (foxT g c (l.take k) (l.getD k 0)).length ≤ 1 := by unfold foxT; split <;> simp
    omega
theorem foxN_mem {g c C : Int} (hc : -C ≤ c ∧ c ≤ C) {l : List UInt8} {t : Tm} : ∀ {k}, k ≤ l.length → t ∈ foxN g c l k → (-C ≤ t.c ∧ t.c ≤ C) ∧ ∃ j, j ≤ k ∧ t.s = bstr (l.take j)
  | 0, _, h => by cases h
  | k + 1, hk, h => by
    rw [foxN_succ g c l k (by omega)] at h
    rcases List.mem_append.1 h with h | h
    · obtain ⟨h1, j, hj, h2⟩ := foxN_mem hc (by omega) h
      exact ⟨h1, j, by omega, h2⟩
    · by_cases hi : (idxB l[k] : Int) = g
      · by_cases hx : 97 ≤ l[k].toNat
        · rw [foxT_hi hi hx] at h
          obtain rfl := List.mem_singleton.1 h
          exact ⟨mul_sgn hc _, k, by omega, rfl⟩
        · rw [foxT_lo hi hx] at h
          obtain rfl := List.mem_singleton.1 h
          refine ⟨mul_sgn hc _, k + 1, by omega, ?_⟩
          show bstr (l.take k ++ [l[k]]) = _
          rw [← take_snoc l k (by omega)]
      · rw [foxT_no hi] at h; cases h
theorem word_take {l : List UInt8} (h : wordB l = true) (j : Nat) : wordB (l.take j) = true := by
  obtain ⟨h1, h2, h3⟩ := (wordB_iff _).1 h
  refine (wordB_iff _).2 ⟨by rw [List.length_take]; omega, letL_of_mem _ _ h2 fun _ hc => List.mem_of_mem_take hc, (red_iff _).2 ?_⟩
  have := (red_iff _).1 h3
  rw [← List.take_append_drop j l] at this
  exact noC_left this

/-! ### Coefficients -/
def scaleT (c : Int) (ts : List Tm) : List Tm := ts.map fun t => ⟨c * t.c, t.s⟩
theorem coefAt_scale (s : ByteArray) (c : Int) : ∀ ts, coefAt s (scaleT c ts) = c * coefAt s ts
  | [] => by simp [scaleT, coefAt]
  | t :: r => by
    have ih := coefAt_scale s c r
    unfold scaleT at *
    rw [List.map_cons, coefAt, coefAt, ih, Int.mul_add]
    show (if t.s = s then c * t.c else 0) + _ = _
    split
    · rfl
    · simp
theorem foxT_scale (g c : Int) (p : List UInt8) (x : UInt8) : foxT g c p x = scaleT c (foxT g 1 p x) := by
  unfold foxT scaleT
  split
  · simp
  · rfl
theorem foxN_scale (g c : Int) (l : List UInt8) : ∀ k, foxN g c l k = scaleT c (foxN g 1 l k)
  | 0 => rfl
  | k + 1 => by
    rw [foxN, foxN, foxN_scale g c l k, foxT_scale]
    unfold scaleT; rw [List.map_append]
theorem foxL_scale (g c : Int) (l : List UInt8) : foxL g c l = scaleT c (foxL g 1 l) := foxN_scale g c l _
theorem coefAt_flat (s : ByteArray) {f h : Tm → List Tm} (hfh : ∀ t, coefAt s (f t) = coefAt s (h t)) : ∀ a : List Tm, coefAt s (a.flatMap f) = coefAt s (a.flatMap h)
  | [] => rfl
  | t :: r => by rw [List.flatMap_cons, List.flatMap_cons, coefAt_append, coefAt_append, hfh, coefAt_flat s hfh r]
theorem canonT_congr {a b : List Tm} (h : ∀ s, coefAt s a = coefAt s b) : canonT a = canonT b :=
  canonT_unique (canonT_spec a).1 fun s => by rw [(canonT_spec a).2, h]

/-- The terms of the derivative of a sum: as the program gathers them, and as the model does. -/
def foxI (g : Int) (a : List Tm) : List Tm := a.flatMap fun t => foxL g t.c t.s.data.toList
def foxM (g : Int) (a : List Tm) : List Tm := a.flatMap fun t => scaleT t.c (canonT (foxL g 1 t.s.data.toList))
theorem foxIM (g : Int) (a : List Tm) : canonT (foxM g a) = canonT (foxI g a) :=
  canonT_congr fun s => coefAt_flat s (fun t => by rw [coefAt_scale, (canonT_spec _).2, foxL_scale g t.c, coefAt_scale]) a

/-! ### Sizes -/
theorem fold_bound {C : Int} (hC : 0 ≤ C) : ∀ (ts acc : List Tm) (B : Int), 0 ≤ B → (∀ t ∈ ts, -C ≤ t.c ∧ t.c ≤ C) → (∀ u ∈ acc, -B ≤ u.c ∧ u.c ≤ B) → ∀ u ∈ ts.foldl addT acc, -(B + C * ts.length) ≤ u.c ∧ u.c ≤ B + C * ts.length
  | [], acc, B, _, _, h, u, hu => by have := h u hu; simpa using this
  | t :: r, acc, B, hB, ht, h, u, hu => by
    have h1 := fold_bound hC r (addT acc t) (B + C) (by omega) (fun v hv => ht v (by simp [hv])) (add_bound hC (ht t (by simp)) h hB) u hu
    rw [List.length_cons, show ((r.length + 1 : Nat) : Int) = (r.length : Int) + 1 by omega, Int.mul_add, Int.mul_one]
    omega
theorem fold_words : ∀ (ts acc : List Tm), ∀ u ∈ ts.foldl addT acc, (∃ v ∈ acc, v.s = u.s) ∨ ∃ v ∈ ts, v.s = u.s
  | [], acc, u, hu => .inl ⟨u, hu, rfl⟩
  | t :: r, acc, u, hu => by
    rcases fold_words r (addT acc t) u hu with ⟨v, hv, e⟩ | ⟨v, hv, e⟩
    · rcases add_words hv with h | ⟨x, hx, h⟩
      · exact .inr ⟨t, by simp, by rw [← h, e]⟩
      · exact .inl ⟨x, hx, by rw [h, e]⟩
    · exact .inr ⟨v, by simp [hv], e⟩
theorem canon_words {ts : List Tm} {u : Tm} (h : u ∈ canonT ts) : ∃ v ∈ ts, v.s = u.s := by
  rcases fold_words ts [] u h with ⟨v, hv, _⟩ | h
  · cases hv
  · exact h
theorem fold_len : ∀ (ts acc : List Tm), (ts.foldl addT acc).length ≤ acc.length + ts.length
  | [], acc => Nat.le_refl _
  | t :: r, acc => by
    have := fold_len r (addT acc t)
    have h2 := add_len t acc
    rw [List.length_cons]
    show (r.foldl addT (addT acc t)).length ≤ _
    omega
/-- A derivative of a word is a sum. -/
theorem fox_tw {g : Int} {l : List UInt8} (h : wordB l = true) : twB (canonT (foxL g 1 l)) = true := by
  have hl := ((wordB_iff _).1 h).1
  have hn := foxN_len g 1 l l.length
  have hlen : (canonT (foxL g 1 l)).length ≤ 60 := by
    have := fold_len (foxL g 1 l) []
    unfold foxL canonT at *
    simp only [List.length_nil] at this
    omega
  refine twB_of (by omega) fun j hj => ?_
  have hm := List.getElem_mem hj
  have hb := fold_bound (C := 1) (by omega) (foxL g 1 l) [] 0 (by omega) (fun t ht => (foxN_mem (C := 1) (by omega) (Nat.le_refl _) ht).1) (fun u hu => by cases hu) _ hm
  have hb2 : (foxL g 1 l).length ≤ 60 := by unfold foxL; omega
  obtain ⟨v, hv, e⟩ := canon_words hm
  obtain ⟨_, k, _, e2⟩ := foxN_mem (C := 1) (by omega) (Nat.le_refl _) hv
  unfold termB
  rw [← e, e2, bstr_toList, word_take h, Bool.true_and]
  unfold inR
  simp only [Bool.and_eq_true, decide_eq_true_eq]
  omega
theorem foxI_succ (g : Int) (a : List Tm) (k : Nat) (h : k < a.length) : foxI g (a.take (k + 1)) = foxI g (a.take k) ++ foxL g a[k].c a[k].s.data.toList := by
  unfold foxI; rw [List.take_succ_eq_append_getElem h, List.flatMap_append]; simp
theorem foxM_succ (g : Int) (a : List Tm) (k : Nat) (h : k < a.length) : foxM g (a.take (k + 1)) = foxM g (a.take k) ++ scaleT a[k].c (canonT (foxL g 1 a[k].s.data.toList)) := by
  unfold foxM; rw [List.take_succ_eq_append_getElem h, List.flatMap_append]; simp
theorem foxI_len (g : Int) : ∀ (a : List Tm), (∀ t ∈ a, t.s.size ≤ 60) → (foxI g a).length ≤ 60 * a.length
  | [], _ => by simp [foxI]
  | t :: r, h => by
    have ih := foxI_len g r fun u hu => h u (by simp [hu])
    have h1 := foxN_len g t.c t.s.data.toList t.s.data.toList.length
    have h2 := h t (by simp)
    unfold foxI foxL at *
    rw [List.flatMap_cons, List.length_append, List.length_cons]
    have h3 : t.s.data.toList.length = t.s.size := by simp
    omega
theorem foxI_mem {g : Int} {a : List Tm} (h : ∀ t ∈ a, t.s.size ≤ 60 ∧ -1000000 ≤ t.c ∧ t.c ≤ 1000000) {u : Tm} (hu : u ∈ foxI g a) : u.s.size ≤ 60 ∧ -1000000 ≤ u.c ∧ u.c ≤ 1000000 := by
  obtain ⟨t, ht, hu⟩ := List.mem_flatMap.1 hu
  obtain ⟨h1, h2⟩ := h t ht
  obtain ⟨h3, j, _, e⟩ := foxN_mem (C := 1000000) h2 (Nat.le_refl _) hu
  refine ⟨?_, h3⟩
  rw [e, bstr_size, List.length_take]
  have : t.s.data.toList.length = t.s.size := by simp
  omega

end Go.Proofs.YtdhmicpoigoleabDoor

/- Monomials and series: what they are; the contracts of the model's 'l4Mono' and 'SeriesIn'. -/

namespace Go.Proofs.YtdhmicpoigoleabDoor
open Go.RowKit

def genB (c : UInt8) : Bool := decide (97 ≤ c.toNat) && decide (c.toNat ≤ 100)
/-- Is this a monomial? -/
def monoB (s : ByteArray) : Bool := s.data.toList.all genB && decide (s.size ≤ 4)
theorem genB_false (s : ByteArray) (k : Nat) (hk : k < s.data.toList.length) (h : genB s.data.toList[k] = false) : monoB s = false := by
  unfold monoB; rw [List.all_eq_false.2 ⟨_, List.getElem_mem hk, by rw [h]; exact Bool.false_ne_true⟩]; rfl

set_option maxRecDepth 100000 in
set_option maxHeartbeats 1000000 in
theorem sMono_is (s : ByteArray) (b : Bool) (w : World) (hs : s.size ≤ maxLen) (hb : monoB s = b) :
    Calls Tryd.prog 35 #[.string s] w fun e w' => e = .returned (.bool b) ∧ Below w.heap.size w w' := by
  have HB := Lib.hid hb
  unfold maxLen at hs
  clear hb
  go_enter Tryd.func35, Tryd.ntmps35
  go_wp2
  go_loopw [3] (fun i wr => ∃ k : Nat, k ≤ s.size ∧ i = .int .i64 k ∧ Hid ((s.data.toList.take k).all genB = true) ∧ Below w.heap.size w wr) (fun i _ => s.size - (intOf i).toNat)
  case atStart => exact ⟨0, Nat.zero_le _, rfl, Lib.hid rfl, Below.refl _ _⟩
  case round =>
    obtain ⟨k, hk, rfl, HG, hB⟩ := hrel
    by_cases hlt : k < s.size
    · have hl : k < s.data.toList.length := by simpa using hlt
      have hstep : (s.data.toList.take (k + 1)).all genB = genB s[k] := by rw [take_snoc _ k hl, List.all_append, HG.out, Bool.true_and]; simp; rfl
      have HS := Lib.hid hstep
      have HF : Hid (genB s[k] = false → b = false) := Lib.hid fun h => by rw [← HB.out]; exact genB_false s k hl h
      clear hstep
      by_cases h1 : 97 ≤ s[k].toNat
      · by_cases h2 : s[k].toNat ≤ 100
        · have hg : genB s[k] = true := by unfold genB; rw [decide_eq_true h1, decide_eq_true h2]; rfl
          have HGT := Lib.hid hg
          clear hg
          go_wp2_with fail
          go_roundw
          case rel => exact ⟨k + 1, by omega, by go_num, Lib.hid (by rw [HS.out]; exact HGT.out), hB⟩
          case measure => simp [intOf]; omega
        · have hg : genB s[k] = false := by unfold genB; rw [decide_eq_false h2, Bool.and_false]
          have hbf := HF.out hg
          clear hg
          subst hbf
          go_wp2_with fail
          go_ret
          exact ⟨rfl, hB⟩
      · have hg : genB s[k] = false := by unfold genB; rw [decide_eq_false h1]; rfl
        have hbf := HF.out hg
        clear hg
        subst hbf
        go_wp2_with fail
        go_ret
        exact ⟨rfl, hB⟩
    · have hall : s.data.toList.all genB = true := by rw [← HG.out, List.take_of_length_le (by simp; omega)]
      have hbb : decide (s.size ≤ 4) = b := by rw [← HB.out]; unfold monoB; rw [hall, Bool.true_and]
      have HBB := Lib.hid hbb
      clear hbb hall
      go_wp2_with fail
      go_ret
      exact ⟨ret_bool (by rw [← HBB.out]; exact decide_eq_decide.2 (by omega)), hB⟩

/-- Is the term at j as a series wants it, beside the one ahead of it? -/
def serAt (ts : List Tm) (j : Nat) : Bool :=
  (ts.getD j default).c != 0 && inR (-1000000) 1000000 (ts.getD j default).c && monoB (ts.getD j default).s && (decide (j = 0) || lessW (ts.getD (j - 1) default).s (ts.getD j default).s)
def allSer (ts : List Tm) (n : Nat) : Bool := (List.range n).all (serAt ts)
theorem allSer_succ (ts : List Tm) (n : Nat) : allSer ts (n + 1) = (allSer ts n && serAt ts n) := by simp [allSer, List.range_succ]
theorem allSer_false (ts : List Tm) (n k : Nat) (hk : k < n) (h : serAt ts k = false) : allSer ts n = false :=
  List.all_eq_false.2 ⟨k, List.mem_range.2 hk, by simp [h]⟩
/-- Is this a series? -/
def serB (ts : List Tm) : Bool := allSer ts ts.length && decide (ts.length ≤ 400)

theorem serB_false (ts : List Tm) (k : Nat) (hk : k < ts.length) (h : serAt ts k = false) : serB ts = false := by
  unfold serB; rw [allSer_false ts _ k hk h, Bool.false_and]
theorem serAt_c (ts : List Tm) (k : Nat) (t : Tm) (ht : ts.getD k default = t) (h : t.c = 0) : serAt ts k = false := by
  unfold serAt; rw [ht, h]; rfl
theorem serAt_r (ts : List Tm) (k : Nat) (t : Tm) (ht : ts.getD k default = t) (h : inR (-1000000) 1000000 t.c = false) : serAt ts k = false := by
  unfold serAt; rw [ht, h]; simp
theorem serAt_w (ts : List Tm) (k : Nat) (t : Tm) (ht : ts.getD k default = t) (h : monoB t.s = false) : serAt ts k = false := by
  unfold serAt; rw [ht, h]; simp
theorem serAt_zero (ts : List Tm) (k : Nat) (t : Tm) (hk : k = 0) (ht : ts.getD k default = t) (h0 : ¬ t.c = 0) (h1 : inR (-1000000) 1000000 t.c = true) (h2 : monoB t.s = true) : serAt ts k = true := by
  unfold serAt; rw [ht, h1, h2]; simp [h0, hk]
theorem serAt_succ (ts : List Tm) (k : Nat) (t p : Tm) (hk : 0 < k) (ht : ts.getD k default = t) (hp : ts.getD (k - 1) default = p) (h0 : ¬ t.c = 0) (h1 : inR (-1000000) 1000000 t.c = true) (h2 : monoB t.s = true) : serAt ts k = lessW p.s t.s := by
  have h3 : ¬ k = 0 := by omega
  unfold serAt; rw [ht, hp, h1, h2]; simp [h0, h3]

set_option maxRecDepth 100000 in
set_option maxHeartbeats 2000000 in
theorem sSeriesIn_any (a : Option Addr) (cap n : Nat) (ts : List Tm) (w : World) (hs : IsTerms w a n ts) :
    Calls Tryd.prog 16 #[.slice a n cap] w fun e w' => e = .returned (.bool (serB ts)) ∧ Below w.heap.size w w' := by
  have HN := Lib.hid hs.len
  have HS := Lib.hid hs
  have hm := hs.max
  have hmx : Tryd.prog.follows .mixedOrders = true := by kernel_rfl
  clear hs
  unfold maxLen at hm
  go_enter Tryd.func16, Tryd.ntmps16
  go_wp2
  go_loopw [3] (fun i wr => ∃ k : Nat, k ≤ n ∧ i = .int .i64 k ∧ Hid (allSer ts k = true) ∧ Below w.heap.size w wr) (fun i _ => n - (intOf i).toNat)
  case atStart => exact ⟨0, Nat.zero_le _, rfl, Lib.hid rfl, Below.refl _ _⟩
  case round =>
    obtain ⟨k, hk, rfl, HG, hB⟩ := hrel
    by_cases hlt : k < n
    · have hkz : k < ts.length := by rw [HN.out]; exact hlt
      obtain ⟨x, rfl, hx⟩ := HS.out.at_ (by omega)
      obtain ⟨t, ht⟩ : ∃ t, ts[k] = t := ⟨_, rfl⟩
      have hsm : t.s.size ≤ maxLen := by rw [← ht]; exact (HS.out.small _ (List.getElem_mem hkz)).1
      have hc := (hx.below hB).2 k hkz
      have hbx := (hx.below hB).1
      rw [ht, addr_next] at hc
      obtain ⟨c0, c1⟩ := hc
      have HT : Hid (ts.getD k default = t) := Lib.hid (by rw [List.getD_eq_getElem?_getD, List.getElem?_eq_getElem hkz, ht]; rfl)
      have HX := Lib.hid (hx.below hB)
      clear ht hx
      obtain ⟨V, hV⟩ : ∃ V, wr.alloc (.cells #[.int .i64 t.c, .string t.s] TI) = V := ⟨_, rfl⟩
      have hbV : Below wr.heap.size wr V := by rw [← hV]; exact (Below.refl _ _).alloc (Nat.le_refl _) _
      have hzV : V.heap.size = wr.heap.size + 1 := by rw [← hV]; simp
      have v0 := BelowBy.cell (w := V) (a := ⟨wr.heap.size, 0, none⟩) (by show wr.heap.size < _; omega) (by rw [← hV]; exact (World.cell?_alloc_at _ _ _ _ (by simp)).trans rfl : V.cell? ⟨wr.heap.size, 0, none⟩ = some (.int .i64 t.c))
      have v1 := BelowBy.cell (w := V) (a := ⟨wr.heap.size, 1, none⟩) (by show wr.heap.size < _; omega) (by rw [← hV]; exact (World.cell?_alloc_at _ _ _ _ (by simp)).trans rfl : V.cell? ⟨wr.heap.size, 1, none⟩ = some (.string t.s))
      have HV := Lib.hid hV
      have HZ := Lib.hid hzV
      clear hV hzV
      by_cases h0 : t.c = 0
      · have HC0 := Lib.hid h0
        have hz : (t.c == 0) = true := by rw [h0]; rfl
        clear h0
        go_wp2
        rw [HV.out]
        refine wp_region_below hmx (by kernel_rfl) ?_
        repeat (((with_reducible refine wpQuiet_step (fun K hK => ?_)); go_simp; first | ((with_reducible refine hK _ ?_); clear hK K) | (refine (if_neg (by decide)).mpr ?_; (with_reducible refine hK _ ?_); clear hK K) | (apply Exists.intro; (with_reducible refine ⟨fun _ => ?_, hK _ ?_⟩); (first | (go_at_call 34; exact Calls.bel (l6In_is _ _ _ _ _ HC.out)) | (go_at_call 35; exact Calls.bel (sMono_is _ _ _ hsm HW.out)) | (go_at_call 36; exact Calls.bel (l2Less_is _ _ _ _ HLs.out))); clear hK K)))
        with_reducible refine wpQuiet_nil ?_
        rintro W ⟨⟨_, hW⟩, rfl⟩
        have hBW : Below w.heap.size w W := hB.trans (((hbV.mono (Nat.le_refl _)).trans (hW.mono (by rw [HZ.out]; omega))).mono hB.size)
        clear v0 v1
        go_wp2
        go_ret
        exact ⟨ret_bool (serB_false ts k hkz (by rw [serAt_c ts k t HT.out HC0.out])).symm, hBW⟩
      · have hz : (t.c == 0) = false := by simpa using h0
        have HC0 := Lib.hid h0
        clear h0
        cases hc : inR (-1000000) 1000000 t.c with
        | false =>
          have HC := Lib.hid hc
          clear hc
          go_wp2
          rw [HV.out]
          refine wp_region_below hmx (by kernel_rfl) ?_
          repeat (((with_reducible refine wpQuiet_step (fun K hK => ?_)); go_simp; first | ((with_reducible refine hK _ ?_); clear hK K) | (refine (if_neg (by decide)).mpr ?_; (with_reducible refine hK _ ?_); clear hK K) | (apply Exists.intro; (with_reducible refine ⟨fun _ => ?_, hK _ ?_⟩); (first | (go_at_call 34; exact Calls.bel (l6In_is _ _ _ _ _ HC.out)) | (go_at_call 35; exact Calls.bel (sMono_is _ _ _ hsm HW.out)) | (go_at_call 36; exact Calls.bel (l2Less_is _ _ _ _ HLs.out))); clear hK K)))
          with_reducible refine wpQuiet_nil ?_
          rintro W ⟨⟨_, hW⟩, rfl⟩
          have hBW : Below w.heap.size w W := hB.trans (((hbV.mono (Nat.le_refl _)).trans (hW.mono (by rw [HZ.out]; omega))).mono hB.size)
          clear v0 v1
          go_wp2
          go_ret
          exact ⟨ret_bool (serB_false ts k hkz (by rw [serAt_r ts k t HT.out HC.out])).symm, hBW⟩
        | true =>
          have HC := Lib.hid hc
          clear hc
          cases hw : monoB t.s with
          | false =>
            have HW := Lib.hid hw
            clear hw
            go_wp2
            rw [HV.out]
            refine wp_region_below hmx (by kernel_rfl) ?_
            repeat (((with_reducible refine wpQuiet_step (fun K hK => ?_)); go_simp; first | ((with_reducible refine hK _ ?_); clear hK K) | (refine (if_neg (by decide)).mpr ?_; (with_reducible refine hK _ ?_); clear hK K) | (apply Exists.intro; (with_reducible refine ⟨fun _ => ?_, hK _ ?_⟩); (first | (go_at_call 34; exact Calls.bel (l6In_is _ _ _ _ _ HC.out)) | (go_at_call 35; exact Calls.bel (sMono_is _ _ _ hsm HW.out)) | (go_at_call 36; exact Calls.bel (l2Less_is _ _ _ _ HLs.out))); clear hK K)))
            with_reducible refine wpQuiet_nil ?_
            rintro W ⟨⟨_, hW⟩, rfl⟩
            have hBW : Below w.heap.size w W := hB.trans (((hbV.mono (Nat.le_refl _)).trans (hW.mono (by rw [HZ.out]; omega))).mono hB.size)
            clear v0 v1
            go_wp2
            go_ret
            exact ⟨ret_bool (serB_false ts k hkz (by rw [serAt_w ts k t HT.out HW.out])).symm, hBW⟩
          | true =>
            have HW := Lib.hid hw
            clear hw
            by_cases hk0 : k = 0
            · have HK0 := Lib.hid hk0
              have hd : decide (0 < k) = false := by simp; omega
              clear hk0
              go_wp2
              rw [HV.out]
              refine wp_region_below hmx (by kernel_rfl) ?_
              repeat (((with_reducible refine wpQuiet_step (fun K hK => ?_)); go_simp; first | ((with_reducible refine hK _ ?_); clear hK K) | (refine (if_neg (by decide)).mpr ?_; (with_reducible refine hK _ ?_); clear hK K) | (apply Exists.intro; (with_reducible refine ⟨fun _ => ?_, hK _ ?_⟩); (first | (go_at_call 34; exact Calls.bel (l6In_is _ _ _ _ _ HC.out)) | (go_at_call 35; exact Calls.bel (sMono_is _ _ _ hsm HW.out)) | (go_at_call 36; exact Calls.bel (l2Less_is _ _ _ _ HLs.out))); clear hK K)))
              with_reducible refine wpQuiet_nil ?_
              rintro W ⟨⟨_, hW⟩, rfl⟩
              have hBW : Below w.heap.size w W := hB.trans (((hbV.mono (Nat.le_refl _)).trans (hW.mono (by rw [HZ.out]; omega))).mono hB.size)
              clear v0 v1
              go_wp2
              go_roundw
              case rel => exact ⟨k + 1, by omega, by go_num, Lib.hid (by rw [allSer_succ, HG.out, Bool.true_and]; exact serAt_zero ts k t HK0.out HT.out HC0.out HC.out HW.out), hBW⟩
              case measure => simp [intOf]; omega
            · have HKp := Lib.hid (Nat.pos_of_ne_zero hk0)
              have hd : decide (0 < k) = true := by simp; omega
              obtain ⟨j, hj⟩ : ∃ j, k - 1 = j := ⟨_, rfl⟩
              have hjn : j < n := by omega
              have hjz : j < ts.length := by omega
              obtain ⟨p, hp⟩ : ∃ p, ts[j] = p := ⟨_, rfl⟩
              have hd0 := (HX.out.2 j hjz).2
              have hdb := HX.out.1
              have hwr : IntKind.i64.wrap ((k : Int) - 1) = (j : Int) := by rw [IntWalk.i64_in _ (by omega)]; omega
              have HP : Hid (ts.getD (k - 1) default = p) := Lib.hid (by rw [hj, List.getD_eq_getElem?_getD, List.getElem?_eq_getElem hjz, hp]; rfl)
              rw [hp, addr_next] at hd0
              have v2 := BelowBy.cell (w := V) (a := ⟨(x.add (j * 2)).block, (x.add (j * 2)).off + 1, none⟩) (by show (x.add (j * 2)).block < _; rw [addr_add_block]; rw [HZ.out]; omega) ((hbV.cell (p := ⟨(x.add (j * 2)).block, (x.add (j * 2)).off + 1, none⟩) (by show (x.add (j * 2)).block < _; rw [addr_add_block]; exact hdb)).trans hd0)
              clear hk0 hj hp hd0 hdb
              cases hl : lessW p.s t.s with
              | false =>
                have HLs := Lib.hid hl
                clear hl
                go_wp2
                rw [HV.out]
                refine wp_region_below hmx (by kernel_rfl) ?_
                repeat (((with_reducible refine wpQuiet_step (fun K hK => ?_)); go_simp; first | ((with_reducible refine hK _ ?_); clear hK K) | (refine (if_neg (by decide)).mpr ?_; (with_reducible refine hK _ ?_); clear hK K) | (apply Exists.intro; (with_reducible refine ⟨fun _ => ?_, hK _ ?_⟩); (first | (go_at_call 34; exact Calls.bel (l6In_is _ _ _ _ _ HC.out)) | (go_at_call 35; exact Calls.bel (sMono_is _ _ _ hsm HW.out)) | (go_at_call 36; exact Calls.bel (l2Less_is _ _ _ _ HLs.out))); clear hK K)))
                with_reducible refine wpQuiet_nil ?_
                rintro W ⟨⟨_, hW⟩, rfl⟩
                have hBW : Below w.heap.size w W := hB.trans (((hbV.mono (Nat.le_refl _)).trans (hW.mono (by rw [HZ.out]; omega))).mono hB.size)
                clear v0 v1 v2 hwr
                go_wp2
                go_ret
                exact ⟨ret_bool (serB_false ts k hkz (by rw [serAt_succ ts k t p HKp.out HT.out HP.out HC0.out HC.out HW.out]; exact HLs.out)).symm, hBW⟩
              | true =>
                have HLs := Lib.hid hl
                clear hl
                go_wp2
                rw [HV.out]
                refine wp_region_below hmx (by kernel_rfl) ?_
                repeat (((with_reducible refine wpQuiet_step (fun K hK => ?_)); go_simp; first | ((with_reducible refine hK _ ?_); clear hK K) | (refine (if_neg (by decide)).mpr ?_; (with_reducible refine hK _ ?_); clear hK K) | (apply Exists.intro; (with_reducible refine ⟨fun _ => ?_, hK _ ?_⟩); (first | (go_at_call 34; exact Calls.bel (l6In_is _ _ _ _ _ HC.out)) | (go_at_call 35; exact Calls.bel (sMono_is _ _ _ hsm HW.out)) | (go_at_call 36; exact Calls.bel (l2Less_is _ _ _ _ HLs.out))); clear hK K)))
                with_reducible refine wpQuiet_nil ?_
                rintro W ⟨⟨_, hW⟩, rfl⟩
                have hBW : Below w.heap.size w W := hB.trans (((hbV.mono (Nat.le_refl _)).trans (hW.mono (by rw [HZ.out]; omega))).mono hB.size)
                clear v0 v1 v2 hwr
                go_wp2
                go_roundw
                case rel => exact ⟨k + 1, by omega, by go_num, Lib.hid (by rw [allSer_succ, HG.out, Bool.true_and]; rw [serAt_succ ts k t p HKp.out HT.out HP.out HC0.out HC.out HW.out]; exact HLs.out), hBW⟩
                case measure => simp [intOf]; omega
    · obtain rfl : k = n := by omega
      go_wp2
      go_ret
      exact ⟨ret_bool (by unfold serB; rw [HN.out, HG.out, Bool.true_and, Bool.eq_iff_iff]; simp; omega), hB⟩

end Go.Proofs.YtdhmicpoigoleabDoor

/- The contracts of the model's sums of letters. -/

namespace Go.Proofs.YtdhmicpoigoleabDoor
open Go.RowKit

theorem sIndex_any (c : UInt8) (w : World) (h : letB c = true) :
    Calls Tryd.prog 53 #[.int .u8 (c.toNat : Int)] w fun e w' => e = .returned (.int .i64 (idxB c : Int)) ∧ w = w' := by
  have hc := (letB_iff c).1 h
  clear h
  by_cases h97 : 97 ≤ c.toNat
  · have H : Hid ((idxB c : Int) = (c.toNat : Int) - 97) := Lib.hid (by unfold idxB; rw [if_pos h97]; omega)
    have h2 : c.toNat ≤ 100 := by omega
    clear hc
    go_enter Tryd.func53, Tryd.ntmps53
    go_wp2
    go_ret
    exact ⟨ret_int H.out.symm, rfl⟩
  · have H : Hid ((idxB c : Int) = (c.toNat : Int) - 65) := Lib.hid (by unfold idxB; rw [if_neg h97]; omega)
    have h2 : c.toNat ≤ 68 := by omega
    have h3 : 65 ≤ c.toNat := by omega
    clear hc
    go_enter Tryd.func53, Tryd.ntmps53
    go_wp2
    go_ret
    exact ⟨ret_int H.out.symm, rfl⟩

end Go.Proofs.YtdhmicpoigoleabDoor

/- A drawn region whose head makes memory but has fixed values, and whose tail comes in one order only. -/

namespace Go.Proofs.YtdhmicpoigoleabDoor
open Go.RowKit

section
variable {P : Program} {ops : Array Oper} {md : Region.Mode} {C : World → Prop}

/-- The head in whatever order, up to the place where L holds. -/
def headQ (P : Program) (md : Region.Mode) (ops : Array Oper) (C : World → Prop) (n : Nat) (L : Array Bool → Act → Prop) : Nat → Array Bool → Act → Prop
  | 0, listed, a => L listed a
  | f + 1, listed, a => Region.ready md ops listed ≠ [] ∧ ∀ i ∈ Region.ready md ops listed, i < n ∧ qOp P ops C i (headQ P md ops C n L f (listed.setIfInBounds i true)) a

theorem wpAny_headQ {n g : Nat} {L : Array Bool → Act → Prop} {Q' : Exit → Act → World → Prop} (hL : ∀ listed a w, C w → L listed a → wpAny P md ops Q' g listed a w) :
    ∀ (f : Nat) (listed : Array Bool) (a : Act) (w : World), C w → headQ P md ops C n L f listed a → wpAny P md ops Q' (f + g) listed a w
  | 0, _, _, _, hw, h => by rw [Nat.zero_add]; exact hL _ _ _ hw h
  | f + 1, listed, a, w, hw, h => by
    rw [Nat.succ_add]
    exact ⟨fun h0 => absurd h0 h.1, fun i hi => wpOp_of_qOp hw (fun a' w' hw' h' => wpAny_headQ hL f _ a' w' hw' h') (h.2 i hi).2⟩

theorem headQ_first {n i : Nat} {oi : Oper} {v : Value} {L : Array Bool → Act → Prop} (hi : ops[i]? = some oi) (hsel : ∀ (j : Nat) (o : Oper) cs b, ops[j]? = some o → o.op ≠ .select cs b)
    (hs : Region.sinkB md ops n = true) (hc : Region.chainB md ops n = true) (hn : n < ops.size) (hin : i < n) (hdone : ∀ listed a, L listed a → ∀ j ∈ Region.ready md ops listed, n ≤ j) :
    ∀ (f : Nat) (listed : Array Bool) (a : Act), HeadInv md ops n listed →
      (∀ j oj, ops[j]? = some oj → j ≠ i → listed.getD j true = false → (∀ e ∈ oj.after, Region.binds md e = true → e.on ≠ i) → oi.apart ops oj = true) →
      i ∈ Region.ready md ops listed → YieldsIn P ops C oi v a →
      headQ P md ops C n L f (listed.setIfInBounds i true) (a.put oi.dst v) → headQ P md ops C n L (f + 1) listed a := by
  intro f
  induction f with
  | zero =>
    intro listed a inv _ hr hy H
    refine ⟨fun h => (by rw [h] at hr; cases hr), fun j hj => ?_⟩
    have hjn : j < n := Nat.lt_of_not_le fun h => tail_waits hs hc hn inv _ i rfl hin (mem_ready.1 hr).1 j h hj
    refine ⟨hjn, ?_⟩
    by_cases hji : j = i
    · subst hji; exact hy.qOp hi H
    · exact absurd (hdone _ _ H j (ready_mono hj hji)) (by omega)
  | succ f ih =>
    intro listed a inv hfree hr hy H
    have hun := (mem_ready.1 hr).1
    refine ⟨fun h => (by rw [h] at hr; cases hr), fun j hj => ?_⟩
    have hjn : j < n := Nat.lt_of_not_le fun h => tail_waits hs hc hn inv _ i rfl hin hun j h hj
    refine ⟨hjn, ?_⟩
    by_cases hji : j = i
    · subst hji; exact hy.qOp hi H
    · obtain ⟨hjun, oj, hoj, hall⟩ := mem_ready.1 hj
      have hnot : ∀ e ∈ oj.after, Region.binds md e = true → e.on ≠ i := fun e he hb heq => by
        have h1 := hall e he hb
        rw [heq, getD_both hun] at h1
        cases h1
      have h2 := qOp_put hoj (hfree j oj hoj hji hjun hnot) (fun cs b => hsel i oi cs b hi) (fun cs b => hsel j oj cs b hoj) hy (H.2 j (ready_mono hj hji)).2
      refine qOp_mono (fun a' h3 => ih _ a' (inv.set hj hjn) (fun k ok hk hki hu hno => hfree k ok hk hki ?_ hno) (ready_mono hr (Ne.symm hji)) h3.1 ?_) h2
      · by_cases hjk : j = k
        · subst hjk; exact hjun
        · rw [getD_set_ne true hjk] at hu; exact hu
      · rw [Array.setIfInBounds_comm _ _ hji]
        exact h3.2

theorem headQ_lex {n g : Nat} {Lq : Act → Prop} (hsel : Region.noSelect ops = true) (hs : Region.sinkB md ops n = true) (hc : Region.chainB md ops n = true) (hn : n < ops.size) :
    ∀ (l : List Oper) (k : Nat) (listed : Array Bool) (a : Act), (∀ j, j < l.length → l[j]? = ops[k + j]?) → k + l.length = n → HeadInv md ops n listed →
    Region.lexHead md ops g l.length k listed = true → wpQuiet P ops C Lq l a → headQ P md ops C n (fun listed' a' => Region.seqB md ops g n listed' = true ∧ Lq a') l.length listed a
  | [], k, listed, a, _, hk, _, hB, h => by
    obtain rfl : k = n := by simpa using hk
    exact ⟨by simpa [Region.lexHead] using hB, h⟩
  | o :: l, k, listed, a, hl, hk, inv, hB, h => by
    have h0 : ops[k]? = some o := by simpa using (hl 0 (by simp)).symm
    simp only [List.length_cons, Region.lexHead, Bool.and_eq_true] at hB
    have hkn : k < n := by simp only [List.length_cons] at hk; omega
    have hr' : k ∈ Region.ready md ops listed := by simpa using hB.1.1
    have hst : qOp P ops C k (wpQuiet P ops C Lq l) a := by unfold qOp; simp only [h0]; exact h
    obtain ⟨v, hy, hK⟩ := yieldsIn_of_qOp h0 hst
    exact headQ_first h0 (Region.noSelect_spec hsel) hs hc hn hkn (fun listed' a' hL => seqB_ready hL.1) l.length listed a inv (Region.free_spec h0 hB.1.2) hr' hy
      (headQ_lex hsel hs hc hn l (k + 1) _ _ (fun j hj => by have := hl (j + 1) (by simp; omega); simpa [Nat.add_assoc, Nat.add_comm 1 j] using this) (by simp only [List.length_cons] at hk; omega) (inv.set hr' hkn) hB.2 hK)

/-- The head walked once, in every world of the class; then the tail. -/
theorem wp_region_quiet_tail {id : Nat} {Q : Exit → Act → World → Prop} {a : Act} {w : World} {l : List Oper} (n : Nat) (hm : P.follows .mixedOrders = true) (hB : Region.lexTailB .any l.toArray n = true) (hC : C { w with drawn := w.drawn + 1 })
    (h : wpQuiet P l.toArray C (fun a' => ∀ w', C w' → wpList P l.toArray Q (l.drop n) a' w') (l.take n) a) : (Code.region id l.toArray true).wp P Q a w := by
  simp only [Region.lexTailB, Bool.and_eq_true, decide_eq_true_eq] at hB
  obtain ⟨⟨⟨⟨hsel, hn⟩, hs⟩, hc⟩, hlex⟩ := hB
  have hn' : n < l.length := by simpa using hn
  have htl : (l.take n).length = n := by simp; omega
  have hdl : (l.drop n).length = l.toArray.size - n := by simp
  have inv0 : HeadInv .any l.toArray n (Array.replicate l.toArray.size false) :=
    ⟨by simp, fun j oj _ hl => (by rw [getD_replicate_false] at hl; cases hl), fun t _ ht => getD_in (by simpa using ht) (getD_replicate_false _ _)⟩
  have H := headQ_lex (md := .any) (g := l.toArray.size - n) hsel hs hc hn (l.take n) 0 _ a (fun j hj => by
    have hj' : j < n := by rw [htl] at hj; exact hj
    simp [hj']) (by simpa using htl) inv0 (by rw [htl]; exact hlex) h
  refine wp_region_any hm ?_
  have := wpAny_headQ (Q' := Q) (g := l.toArray.size - n) (fun listed a' w' hw' hL => by
    have := wpAny_of_seq (md := .any) (Q' := Q) (l.drop n) n listed a' w' (fun j => by simp [List.getElem?_drop]) (by rw [hdl]; exact hL.1) (hL.2 w' hw')
    rwa [hdl] at this) _ _ _ _ hC H
  rw [htl, show n + (l.toArray.size - n) = l.toArray.size by omega] at this
  exact this
/-- At the worlds behind w. -/
theorem wp_region_below_tail {id : Nat} {Q : Exit → Act → World → Prop} {a : Act} {w : World} {l : List Oper} (n : Nat) (hm : P.follows .mixedOrders = true) (hB : Region.lexTailB .any l.toArray n = true)
    (h : wpQuiet P l.toArray (fun w' => ∃ p : BelowBy w, w' = p.world) (fun a' => ∀ w', (∃ p : BelowBy w, w' = p.world) → wpList P l.toArray Q (l.drop n) a' w') (l.take n) a) : (Code.region id l.toArray true).wp P Q a w :=
  wp_region_quiet_tail n hm hB ⟨⟨w.drew, (Below.refl _ _).drew⟩, rfl⟩ h
end

end Go.Proofs.YtdhmicpoigoleabDoor

/- The contracts of the model's 'l3Fox' and 'FoxOf'. -/

namespace Go.Proofs.YtdhmicpoigoleabDoor
open Go.RowKit Go.Shelf

theorem Acc.more {base : Nat} {w : World} {v : Value} {acc : List Tm} {N N' : Nat} {B B' : Int} (h : Acc base w v acc N B) (hN : N ≤ N') (hB : B ≤ B') : Acc base w v acc N' B' :=
  ⟨h.own, Nat.le_trans h.len hN, fun u hu => by have := h.bnd u hu; omega, h.sml⟩
theorem extract_take (s : ByteArray) (k : Nat) : s.extract 0 k = bstr (s.data.toList.take k) := by
  apply bytes_ext
  rw [Lib.extract_data, bstr_toList]; simp

end Go.Proofs.YtdhmicpoigoleabDoor

/- The contracts of the model's 'l1Four', 'l1Put' and 'WordPut'. -/

namespace Go.Proofs.YtdhmicpoigoleabDoor
open Go.RowKit

def wordsB (zs : List ByteArray) : Bool := zs.all fun s => wordB s.data.toList
/-- Are these four words? -/
def fourB (zs : List ByteArray) : Bool := wordsB zs && decide (zs.length = 4)

theorem wordsB_false (zs : List ByteArray) (k : Nat) (hk : k < zs.length) (h : wordB zs[k].data.toList = false) : wordsB zs = false :=
  List.all_eq_false.2 ⟨_, List.getElem_mem hk, by simp [h]⟩
theorem wordsB_of (zs : List ByteArray) (h : ∀ j (hj : j < zs.length), wordB zs[j].data.toList = true) : wordsB zs = true :=
  List.all_eq_true.2 fun s hs => by
    obtain ⟨j, hj, rfl⟩ := List.mem_iff_getElem.1 hs
    exact h j hj

/-- The image of a letter, and of a row of letters. -/
def imgL (zs : List ByteArray) (c : UInt8) : List UInt8 := if c.toNat < 97 then backL (zs.getD (idxB c) ByteArray.empty).data.toList else (zs.getD (idxB c) ByteArray.empty).data.toList
def putL (zs : List ByteArray) (l : List UInt8) : List UInt8 := (l.map (imgL zs)).flatten
theorem putL_snoc (zs : List ByteArray) (l : List UInt8) (c : UInt8) : putL zs (l ++ [c]) = putL zs l ++ imgL zs c := by simp [putL]
theorem imgL_len (zs : List ByteArray) (c : UInt8) (h : ∀ z ∈ zs, z.size ≤ 60) (hc : idxB c < zs.length) : (imgL zs c).length ≤ 60 := by
  have h1 : (zs.getD (idxB c) ByteArray.empty) ∈ zs := by
    rw [List.getD_eq_getElem?_getD, List.getElem?_eq_getElem hc]; exact List.getElem_mem hc
  have h2 := h _ h1
  unfold imgL
  split
  · rw [backL_length]; simpa using h2
  · simpa using h2

theorem fourB_iff (zs : List ByteArray) : fourB zs = true ↔ zs.length = 4 ∧ ∀ z ∈ zs, wordB z.data.toList = true := by
  unfold fourB wordsB
  rw [Bool.and_eq_true, List.all_eq_true, decide_eq_true_iff, and_comm]

end Go.Proofs.YtdhmicpoigoleabDoor

/- The contracts of the model's 'SumTurned' and 'SumPut'. -/

namespace Go.Proofs.YtdhmicpoigoleabDoor
open Go.RowKit Go.Shelf

/-- A term whose word is changed. -/
def mapT (f : List UInt8 → List UInt8) (t : Tm) : Tm := ⟨t.c, bstr (f t.s.data.toList)⟩
def fitB (ts : List Tm) : Bool := ts.all fun t => decide (t.s.size ≤ 60)
theorem fitB_at {ts : List Tm} {k : Nat} (hk : k < ts.length) (h : ¬ ts[k].s.size ≤ 60) : fitB ts = false :=
  List.all_eq_false.2 ⟨_, List.getElem_mem hk, by simpa using h⟩
theorem fitB_of {ts : List Tm} (h : ∀ j (hj : j < ts.length), ts[j].s.size ≤ 60) : fitB ts = true :=
  List.all_eq_true.2 fun t ht => by
    obtain ⟨j, hj, rfl⟩ := List.getElem_of_mem ht
    simpa using h j hj
theorem termB_word {t : Tm} (h : termB t = true) : wordB t.s.data.toList = true := by unfold termB at h; simp only [Bool.and_eq_true] at h; exact h.1

def putF (zs : List ByteArray) (l : List UInt8) : List UInt8 := redL [] (putL zs l)

end Go.Proofs.YtdhmicpoigoleabDoor

/- The contracts of the model's 'l2Times' and 'SumTimes'. -/

namespace Go.Proofs.YtdhmicpoigoleabDoor
open Go.RowKit Go.Shelf

/-- The product of two terms, and those of all pairs. -/
def pairT (t u : Tm) : Tm := ⟨t.c * u.c, bstr (redL [] (t.s.data.toList ++ u.s.data.toList))⟩
def pairsT (x y : List Tm) : List Tm := x.flatMap fun t => y.map (pairT t)
theorem pairs_succ (x y : List Tm) (k : Nat) (h : k < x.length) : pairsT (x.take (k + 1)) y = pairsT (x.take k) y ++ y.map (pairT x[k]) := by
  unfold pairsT
  rw [List.take_succ_eq_append_getElem h, List.flatMap_append]
  simp
theorem pairs_zero (y : List Tm) : pairsT [] y = [] := rfl
theorem pairs_len (x y : List Tm) : (pairsT x y).length = x.length * y.length := by
  unfold pairsT
  induction x with
  | nil => simp
  | cons t r ih => rw [List.flatMap_cons, List.length_append, ih, List.length_map, List.length_cons, Nat.succ_mul]; omega
theorem map_succ (f : Tm → Tm) (y : List Tm) (j : Nat) (h : j < y.length) : (y.take (j + 1)).map f = (y.take j).map f ++ [f y[j]] := by
  rw [List.take_succ_eq_append_getElem h, List.map_append]; rfl
theorem mul_bnd {a b : Int} (ha : -1000000 ≤ a ∧ a ≤ 1000000) (hb : -1000000 ≤ b ∧ b ≤ 1000000) : -1000000000000 ≤ a * b ∧ a * b ≤ 1000000000000 := by
  have h : (a * b).natAbs ≤ 1000000 * 1000000 := by
    rw [Int.natAbs_mul]
    exact Nat.mul_le_mul (by omega) (by omega)
  omega

/-- What has been added up so far: the terms of L. -/
structure AccL (base : Nat) (w : World) (v : Value) (L : List Tm) : Prop where
  fit : ∀ t ∈ L, t.s.size ≤ 60
  acc : Acc base w v (L.foldl addT []) L.length (1000000000000 * L.length)
theorem AccL.below {base : Nat} {w w' : World} {v : Value} {L : List Tm} (h : AccL base w v L) (hb : Below w.heap.size w w') : AccL base w' v L := ⟨h.fit, h.acc.below hb⟩
theorem AccL.snoc {base : Nat} {w w' : World} {v v' : Value} {L : List Tm} {t : Tm} (h : AccL base w v L) (ht : t.s.size ≤ 60) (h2 : Acc base w' v' (addT (L.foldl addT []) t) (L.length + 1) (1000000000000 * L.length + 1000000000000)) : AccL base w' v' (L ++ [t]) :=
  ⟨fun u hu => by
    rcases List.mem_append.1 hu with hu | hu
    · exact h.fit u hu
    · rw [List.mem_singleton.1 hu]; exact ht, by
    rw [List.foldl_append, List.length_append]
    rw [show (1000000000000 : Int) * ((L.length + [t].length : Nat) : Int) = 1000000000000 * L.length + 1000000000000 by rw [List.length_singleton]; omega]
    exact h2⟩
theorem AccL.nil (w : World) : AccL w.heap.size (w.alloc (.cells #[] TI)) (.slice (some ⟨w.heap.size, 0, none⟩) 0 0) [] := ⟨fun t h => (by cases h), acc_zero w⟩

/-- What l2Times hands back. -/
def TimesYes (w : World) (ts : List Tm) (e : Ending) (w' : World) : Prop := ∃ v, e = .returned (.tuple #[v, .bool true]) ∧ OwnTerms w.heap.size w' v (canonT ts) ∧ SmallT (canonT ts) ∧ Below w.heap.size w w'
def TimesNo (w : World) (e : Ending) (w' : World) : Prop := ∃ g n cap, e = .returned (.tuple #[.slice (some ⟨g, 0, none⟩) n cap, .bool false]) ∧ Below w.heap.size w w'
def TimesAny (w : World) (b : Bool) (ts : List Tm) (e : Ending) (w' : World) : Prop := (b = true ∧ TimesYes w ts e w') ∨ (b = false ∧ TimesNo w e w')

end Go.Proofs.YtdhmicpoigoleabDoor

/- The contract of the model's 'FoxSum'. -/

namespace Go.Proofs.YtdhmicpoigoleabDoor
open Go.RowKit Go.Shelf

theorem mul_bnd60 {a b : Int} (ha : -1000000 ≤ a ∧ a ≤ 1000000) (hb : -60 ≤ b ∧ b ≤ 60) : -60000000 ≤ a * b ∧ a * b ≤ 60000000 := by
  have h : (a * b).natAbs ≤ 1000000 * 60 := by
    rw [Int.natAbs_mul]
    exact Nat.mul_le_mul (by omega) (by omega)
  omega
theorem scale_succ (c : Int) (ds acc : List Tm) (j : Nat) (h : j < ds.length) : (scaleT c (ds.take (j + 1))).foldl addT acc = addT ((scaleT c (ds.take j)).foldl addT acc) ⟨c * ds[j].c, ds[j].s⟩ := by
  unfold scaleT
  rw [List.take_succ_eq_append_getElem h, List.map_append, List.foldl_append]; rfl

/-- What FoxSum answers. -/
def foxSumB (x : List Tm) (g : Int) : Bool := sumB x && (inR 0 3 g && twB (canonT (foxI g x)))

theorem foxSumB_tw {x : List Tm} {g : Int} {b : Bool} (h : foxSumB x g = b) : b = true → twB (canonT (foxI g x)) = true := by
  intro hb
  subst hb
  unfold foxSumB at h
  simp only [Bool.and_eq_true] at h
  exact h.2.2
end Go.Proofs.YtdhmicpoigoleabDoor

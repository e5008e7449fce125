/- Plain lists of bytes: words of the free group as lists of bytes, reducing them by a stack, their inverses. Nothing of the program is imported. -/
import Derived.Below
import Derived.Laws.AppendOwn
import Derived.Deep.Draws
import Derived.Laws.Strings
namespace Go.Proofs.Ytaaeiogdhmiaaaa

/-- The inverse of a letter, as the model has it. -/
def turnB (c : UInt8) : UInt8 := if 97 ≤ c.toNat then c - 32 else c + 32
/-- Is a byte a letter? -/
def letB (c : UInt8) : Bool := decide ((97 ≤ c.toNat ∧ c.toNat ≤ 100) ∨ (65 ≤ c.toNat ∧ c.toNat ≤ 68))
/-- One step of the stack. -/
def redStep (l : List UInt8) (c : UInt8) : List UInt8 := if l.getLast? = some (turnB c) then l.dropLast else l ++ [c]
/-- The stack. -/
def redL (l : List UInt8) (s : List UInt8) : List UInt8 := s.foldl redStep l
def letL (s : List UInt8) : Bool := s.all letB
def backL (s : List UInt8) : List UInt8 := (s.reverse).map turnB
def bytesV (l : List UInt8) : List Value := l.map fun c => Value.int .u8 (c.toNat : Int)

theorem bytesV_length (l : List UInt8) : (bytesV l).length = l.length := by simp [bytesV]
theorem bytesV_append (a b : List UInt8) : bytesV (a ++ b) = bytesV a ++ bytesV b := by simp [bytesV]

theorem redL_snoc (l s : List UInt8) (c : UInt8) : redL l (s ++ [c]) = redStep (redL l s) c := by simp [redL]
theorem redL_nil (l : List UInt8) : redL l [] = l := rfl
theorem redL_append (l a b : List UInt8) : redL l (a ++ b) = redL (redL l a) b := by simp [redL]
theorem redStep_len (l : List UInt8) (c : UInt8) : (redStep l c).length ≤ l.length + 1 := by
  unfold redStep; split <;> simp <;> omega
theorem redL_len (s : List UInt8) : ∀ l : List UInt8, (redL l s).length ≤ l.length + s.length := by
  induction s with
  | nil => intro l; simp [redL]
  | cons c s ih =>
    intro l
    have h := ih (redStep l c)
    have h2 := redStep_len l c
    show (redL (redStep l c) s).length ≤ _
    simp only [List.length_cons]
    omega
theorem letB_iff (c : UInt8) : letB c = true ↔ ((97 ≤ c.toNat ∧ c.toNat ≤ 100) ∨ (65 ≤ c.toNat ∧ c.toNat ≤ 68)) := by simp [letB]
theorem turnB_hi (c : UInt8) (h : 97 ≤ c.toNat) : ((turnB c).toNat : Int) = (c.toNat : Int) - 32 := by
  unfold turnB
  rw [if_pos h, UInt8.toNat_sub_of_le _ _ (by rw [UInt8.le_iff_toNat_le]; show 32 ≤ _; omega)]
  show ((c.toNat - 32 : Nat) : Int) = _
  omega
theorem turnB_lo (c : UInt8) (h : c.toNat < 97) : ((turnB c).toNat : Int) = (c.toNat : Int) + 32 := by
  unfold turnB
  rw [if_neg (by omega), UInt8.toNat_add]
  show (((c.toNat + 32) % 256 : Nat) : Int) = _
  omega
def wordB (l : List UInt8) : Bool := decide (l.length ≤ 60) && letL l && decide (redL [] l = l)
def bstr (l : List UInt8) : ByteArray := ⟨l.toArray⟩
theorem bstr_toList (l : List UInt8) : (bstr l).data.toList = l := rfl
theorem bstr_size (l : List UInt8) : (bstr l).size = l.length := by simp [bstr, ByteArray.size]
theorem bstr_of (s : ByteArray) : bstr s.data.toList = s := by simp [bstr]
theorem bstr_inj {a b : List UInt8} (h : bstr a = bstr b) : a = b := by
  have := congrArg (fun s : ByteArray => s.data.toList) h
  simpa [bstr] using this
theorem bytes_beq (a b : ByteArray) : (a.toList == b.toList) = decide (a.data.toList = b.data.toList) := by
  rw [ByteArray.toList_eq, ByteArray.toList_eq, Bool.eq_iff_iff]; simp
theorem bytes_ext {a b : ByteArray} (h : a.data.toList = b.data.toList) : a = b := by
  rw [← bstr_of a, ← bstr_of b, h]
theorem take_snoc (s : List UInt8) (k : Nat) (h : k < s.length) : s.take (k + 1) = s.take k ++ [s[k]] := by
  rw [List.take_succ_eq_append_getElem h]
/-- The program's own inverse of a letter, of whatever byte. -/
def invB (c : UInt8) : UInt8 := c ^^^ 32
def stepX (l : List UInt8) (c : UInt8) : List UInt8 := if l.getLast? = some (invB c) then l.dropLast else l ++ [c]
def redX (l : List UInt8) (s : List UInt8) : List UInt8 := s.foldl stepX l
theorem redX_snoc (l s : List UInt8) (c : UInt8) : redX l (s ++ [c]) = stepX (redX l s) c := by simp [redX]
theorem redX_append (l a b : List UInt8) : redX l (a ++ b) = redX (redX l a) b := by simp [redX]
theorem stepX_len (l : List UInt8) (c : UInt8) : (stepX l c).length ≤ l.length + 1 := by
  unfold stepX; split <;> simp <;> omega
theorem redX_len (s : List UInt8) : ∀ l : List UInt8, (redX l s).length ≤ l.length + s.length := by
  induction s with
  | nil => intro l; simp [redX]
  | cons c s ih =>
    intro l
    have h := ih (stepX l c)
    have h2 := stepX_len l c
    show (redX (stepX l c) s).length ≤ _
    simp only [List.length_cons]
    omega
theorem stepX_pop (p : List UInt8) (x c : UInt8) (h : x = invB c) : stepX (p ++ [x]) c = p := by simp [stepX, h]
theorem inv_tab : ∀ n : Fin 256, letB (UInt8.ofNat n.val) = true → invB (UInt8.ofNat n.val) = turnB (UInt8.ofNat n.val) := by decide +kernel
theorem invB_let (c : UInt8) (h : letB c = true) : invB c = turnB c := by
  have := inv_tab ⟨c.toNat, c.toNat_lt⟩
  simp only [UInt8.ofNat_toNat] at this
  exact this h
theorem letL_cons (c : UInt8) (s : List UInt8) : letL (c :: s) = (letB c && letL s) := rfl
theorem letL_append (a b : List UInt8) : letL (a ++ b) = (letL a && letL b) := by simp [letL]
theorem redX_eq : ∀ (s l : List UInt8), letL s = true → redX l s = redL l s
  | [], _, _ => rfl
  | c :: s, l, h => by
    rw [letL_cons, Bool.and_eq_true] at h
    have e : stepX l c = redStep l c := by unfold stepX redStep; rw [invB_let c h.1]
    show redX (stepX l c) s = redL (redStep l c) s
    rw [e]; exact redX_eq s _ h.2
theorem letL_prefix {a b : List UInt8} (h : a <+: b) (ha : letL a = false) : letL b = false := by
  obtain ⟨t, rfl⟩ := h
  rw [letL_append, ha]; rfl
theorem ret_int {k : IntKind} {a b : Int} (h : a = b) : Ending.returned (.int k a) = .returned (.int k b) := by rw [h]
theorem ret_bool {a b : Bool} (h : a = b) : Ending.returned (.bool a) = .returned (.bool b) := by rw [h]
theorem ret_string {a b : ByteArray} (h : a = b) : Ending.returned (.string a) = .returned (.string b) := by rw [h]
theorem letL_take_succ (s : List UInt8) (k : Nat) (hk : k < s.length) : letL (s.take (k + 1)) = (letL (s.take k) && letB s[k]) := by
  unfold letL; rw [List.take_succ_eq_append_getElem hk, List.all_append]; simp
theorem letL_false_of (s : List UInt8) (k : Nat) (hk : k < s.length) (h : letB s[k] = false) : letL s = false := by
  unfold letL; rw [List.all_eq_false]; exact ⟨s[k], List.getElem_mem hk, by simp [h]⟩
theorem last_split (l : List UInt8) (h : 0 < l.length) : ∃ p x, l = p ++ [x] := by
  have hne : l ≠ [] := by intro e; subst e; simp at h
  exact ⟨l.dropLast, l.getLast hne, (List.dropLast_concat_getLast hne).symm⟩
theorem ownsRow_cap {w : World} {base : Nat} {e : TypeId} {size g cap n : Nat} {xs : List Value} (h : w.ownsRow base e size (.slice (some ⟨g, 0, none⟩) n cap) n xs) : n ≤ cap ∧ cap ≤ maxLen ∧ base ≤ g ∧ g < w.heap.size := by
  have hl := h.lt g rfl
  obtain ⟨_, h2 | ⟨g', cap', cur, hv, hg, hh, hn, hc, hs, ht⟩⟩ := h
  · cases h2.1
  · cases hv; exact ⟨hn, hc, hl.1, hl.2⟩
theorem ownsRow_drewN {w : World} {base : Nat} {e : TypeId} {size : Nat} {v : Value} {n : Nat} {xs : List Value} (h : w.ownsRow base e size v n xs) (q : Nat) : (w.drewN q).ownsRow base e size v n xs := h
theorem ownsRow_base {w : World} {b1 b2 : Nat} {e : TypeId} {size : Nat} {v : Value} {n : Nat} {xs : List Value} (h : w.ownsRow b1 e size v n xs) (hb : b2 ≤ b1) : w.ownsRow b2 e size v n xs := by
  obtain ⟨h1, h2 | ⟨g, cap, cur, a, b, c⟩⟩ := h
  · exact ⟨h1, .inl h2⟩
  · exact ⟨h1, .inr ⟨g, cap, cur, a, Nat.le_trans hb b, c⟩⟩
theorem bytesV_set (l : List UInt8) (k : Nat) (c : UInt8) : (bytesV l).set k (.int .u8 (c.toNat : Int)) = bytesV (l.set k c) := by
  simp [bytesV, List.map_set]
theorem fill_set (l : List UInt8) (n k : Nat) (hl : l.length = n) (hk : k < n) : (l.take k ++ List.replicate (n - k) 0).set k (l[k]'(by omega)) = l.take (k + 1) ++ List.replicate (n - (k + 1)) 0 := by
  have h1 : (l.take k).length = k := by simp; omega
  rw [List.set_append_right _ _ (by omega), h1, Nat.sub_self, take_snoc l k (by omega)]
  obtain ⟨m, hm⟩ : ∃ m, n - k = m + 1 := ⟨n - k - 1, by omega⟩
  rw [hm, List.replicate_succ, show n - (k + 1) = m by omega]
  simp only [List.set_cons_zero, List.append_assoc, List.singleton_append]
theorem redL_full : ∀ (s l : List UInt8), (redL l s).length = l.length + s.length → redL l s = l ++ s
  | [], l, _ => by simp [redL]
  | c :: s, l, h => by
    have h0 : redL l (c :: s) = redL (redStep l c) s := rfl
    rw [h0] at h ⊢
    have h1 := redL_len s (redStep l c)
    have h2 : (redStep l c).length = l.length + 1 := by
      have := redStep_len l c
      simp only [List.length_cons] at h
      omega
    have h3 : redStep l c = l ++ [c] := by
      unfold redStep at h2 ⊢
      split at h2
      · simp at h2
      · rename_i hx; rw [if_neg hx]
    rw [h3] at h ⊢
    rw [redL_full s _ (by simp only [List.length_cons, List.length_append, List.length_nil] at h ⊢; omega)]
    simp
theorem wordB_iff (l : List UInt8) : wordB l = true ↔ l.length ≤ 60 ∧ letL l = true ∧ redL [] l = l := by
  simp [wordB, and_assoc]
theorem backL_drop (s : List UInt8) (k : Nat) (h : k < s.length) : backL (s.drop k) = backL (s.drop (k + 1)) ++ [turnB s[k]] := by
  unfold backL
  rw [List.drop_eq_getElem_cons h, List.reverse_cons, List.map_append]
  rfl
theorem backL_length (s : List UInt8) : (backL s).length = s.length := by simp [backL]
/-- Both ends are taken out as long as they are inverse to each other. -/
def coreC (l : List UInt8) : Bool := decide (1 < l.length) && decide (l.head? = some (turnB (l.getLast?.getD 0)))
def coreF : Nat → List UInt8 → List UInt8
  | 0, l => l
  | n + 1, l => if coreC l then coreF n (l.tail.dropLast) else l
def coreL (l : List UInt8) : List UInt8 := coreF l.length l
theorem coreF_false {l : List UInt8} (h : coreC l = false) : ∀ m, coreF m l = l
  | 0 => rfl
  | m + 1 => by rw [coreF, h]; rfl
theorem coreF_true {l : List UInt8} (h : coreC l = true) (m : Nat) : coreF (m + 1) l = coreF m (l.tail.dropLast) := by rw [coreF, h]; rfl
theorem coreC_get (l : List UInt8) (h : 1 < l.length) : coreC l = decide (l[0] = turnB (l[l.length - 1])) := by
  unfold coreC
  rw [List.getLast?_eq_getElem?, List.getElem?_eq_getElem (by omega), List.head?_eq_getElem?, List.getElem?_eq_getElem (by omega)]
  simp [h]
theorem letL_get (l : List UInt8) (h : letL l = true) (i : Nat) (hi : i < l.length) : letB l[i] = true := List.all_eq_true.1 h _ (List.getElem_mem hi)
theorem letL_of_mem (l m : List UInt8) (h : letL l = true) (hm : ∀ c ∈ m, c ∈ l) : letL m = true := List.all_eq_true.2 fun c hc => List.all_eq_true.1 h c (hm c hc)
theorem letL_core (l : List UInt8) (h : letL l = true) : letL (l.tail.dropLast) = true := letL_of_mem l _ h fun _ hc => List.mem_of_mem_tail (List.dropLast_subset _ hc)
theorem core_len (l : List UInt8) : (l.tail.dropLast).length = l.length - 2 := by simp; omega
theorem core_get (l : List UInt8) (j : Nat) (h : j < (l.tail.dropLast).length) : (l.tail.dropLast)[j] = l[j + 1]'(by simp at h; omega) := by
  simp
theorem coreF_len : ∀ (m : Nat) (l : List UInt8), (coreF m l).length ≤ l.length
  | 0, _ => Nat.le_refl _
  | m + 1, l => by
    rw [coreF]; split
    · have := coreF_len m (l.tail.dropLast); rw [core_len] at this; omega
    · exact Nat.le_refl _
theorem redStep_pop (p : List UInt8) (x c : UInt8) (h : x = turnB c) : redStep (p ++ [x]) c = p := by simp [redStep, h]
theorem redStep_push (p : List UInt8) (x c : UInt8) (h : x ≠ turnB c) : redStep (p ++ [x]) c = p ++ [x] ++ [c] := by simp [redStep, h]
theorem redStep_nil (c : UInt8) : redStep [] c = [c] := by simp [redStep]

end Go.Proofs.Ytaaeiogdhmiaaaa

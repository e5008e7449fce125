/- Commutators, parity, cores and putting, over lists of letters. -/
import Derived.Test.YtaaeiogdhmiaaaaMc
import Derived.Test.YtaaeiogdhmiaaaaSd
import Derived.Test.YtaaeiogdhmiaaaaIl
namespace Go.Proofs.Ytaaeiogdhmiaaaa
open Go.RowKit

/-! ### Commutators -/
theorem comm_back {a b : List UInt8} (ha : letL a = true) (hb : letL b = true) : backL (commL a b) = commL b a := by
  unfold commL
  rw [backL_append, backL_append, backL_append, back_back a ha, back_back b hb]
  simp
theorem comm_let {a b : List UInt8} (ha : letL a = true) (hb : letL b = true) : letL (commL a b) = true := by
  unfold commL
  rw [letL_append, letL_append, letL_append, ha, hb, letL_back a ha, letL_back b hb]; rfl
theorem comm_sg (i : Nat) {a b : List UInt8} (ha : letL a = true) (hb : letL b = true) : sgL i (commL a b) = 0 := by
  unfold commL
  rw [sgL_append, sgL_append, sgL_append, sgL_back i a ha, sgL_back i b hb]; omega
/-- A commutator ahead of the product the other way. -/
theorem comm_times {a b : List UInt8} (ha : letL a = true) (hb : letL b = true) : redL [] (commL a b ++ (b ++ a)) = redL [] (a ++ b) := by
  unfold commL
  rw [show a ++ b ++ backL a ++ backL b ++ (b ++ a) = (a ++ b ++ backL a ++ backL b ++ b) ++ a by simp, redL_append, red_inv2 hb, ← redL_append, red_inv2 ha]
theorem sums_comm {a b : List UInt8} (ha : letL a = true) (hb : letL b = true) : sumsL (redL [] (commL a b)) = [0, 0, 0, 0] := by
  have hl := letL_red2 _ [] (comm_let ha hb) rfl
  have h4 := (sumsL_inv _ hl).1
  refine List.ext_getElem (by rw [h4]; rfl) fun i hi hj => ?_
  rw [sums_get _ hl, sgL_red i _ [] (comm_let ha hb), comm_sg i ha hb]
  have hj4 : i < 4 := hj
  rcases (show i = 0 ∨ i = 1 ∨ i = 2 ∨ i = 3 by omega) with rfl | rfl | rfl | rfl <;> rfl
/-! ### Parity -/
theorem step_parity (l : List UInt8) (c : UInt8) : ∃ k, (redStep l c).length + 2 * k = l.length + 1 := by
  unfold redStep
  split
  · refine ⟨1, ?_⟩
    rename_i h
    cases l with
    | nil => simp at h
    | cons a r => simp
  · exact ⟨0, by simp⟩
theorem red_parity : ∀ (s l : List UInt8), ∃ k, (redL l s).length + 2 * k = l.length + s.length
  | [], l => ⟨0, by simp [redL_nil]⟩
  | c :: s, l => by
    obtain ⟨k, hk⟩ := step_parity l c
    obtain ⟨j, hj⟩ := red_parity s (redStep l c)
    refine ⟨k + j, ?_⟩
    have e : redL l (c :: s) = redL (redStep l c) s := rfl
    rw [e, List.length_cons]; omega
/-! ### Cores -/
theorem coreF_core : ∀ (m : Nat) (l : List UInt8), l.length ≤ m → coreC (coreF m l) = false
  | 0, l, h => by
    have : l = [] := List.length_eq_zero_iff.1 (by omega)
    subst this
    rfl
  | m + 1, l, h => by
    rw [coreF]
    split
    · rename_i hc
      have h1 : 1 < l.length := by unfold coreC at hc; simp only [Bool.and_eq_true, decide_eq_true_eq] at hc; exact hc.1
      exact coreF_core m _ (by rw [core_len]; omega)
    · rename_i hc; simpa using hc
theorem core_core (l : List UInt8) : coreL (coreL l) = coreL l := coreF_false (coreF_core l.length l (Nat.le_refl _)) _
theorem core_le (l : List UInt8) : (coreL l).length ≤ l.length := coreF_len _ _
theorem core_ends {l : List UInt8} (hl : letL l = true) (hc : coreC l = true) : ∃ c, letB c = true ∧ l = [turnB c] ++ l.tail.dropLast ++ [c] := by
  have h1 : 1 < l.length := by unfold coreC at hc; simp only [Bool.and_eq_true, decide_eq_true_eq] at hc; exact hc.1
  obtain ⟨p, c, rfl⟩ := last_split l (by omega)
  cases p with
  | nil => simp at h1
  | cons x q =>
    have hx : x = turnB c := by
      unfold coreC at hc
      simp only [Bool.and_eq_true, decide_eq_true_eq] at hc
      have h2 := hc.2
      have e : (x :: q ++ [c]).getLast? = some c := List.getLast?_concat
      rw [e] at h2
      simpa using h2
    refine ⟨c, letL_get _ hl ((x :: q ++ [c]).length - 1) (by simp) |> fun h => by simpa using h, ?_⟩
    subst hx
    simp
theorem coreF_word : ∀ (m : Nat) (l : List UInt8), letL l = true → noC l → letL (coreF m l) = true ∧ noC (coreF m l)
  | 0, l, h1, h2 => ⟨h1, h2⟩
  | m + 1, l, h1, h2 => by
    rw [coreF]
    split
    · rename_i hc
      obtain ⟨c, _, e⟩ := core_ends h1 hc
      refine coreF_word m _ (letL_core l h1) ?_
      rw [e] at h2
      intro p x y q h3
      refine h2 (turnB c :: p) x y (q ++ [c]) ?_
      rw [h3]; simp
    · exact ⟨h1, h2⟩
theorem core_word {l : List UInt8} (h : wordB l = true) : wordB (coreL l) = true := by
  obtain ⟨h1, h2, h3⟩ := (wordB_iff _).1 h
  obtain ⟨h4, h5⟩ := coreF_word l.length l h2 ((red_iff _).1 h3)
  refine (wordB_iff _).2 ⟨by have := core_le l; omega, h4, (red_iff _).2 h5⟩
theorem coreF_sg (i : Nat) : ∀ (m : Nat) (l : List UInt8), letL l = true → sgL i (coreF m l) = sgL i l
  | 0, l, h1 => rfl
  | m + 1, l, h1 => by
    rw [coreF]
    split
    · rename_i hc
      obtain ⟨c, hcl, e⟩ := core_ends h1 hc
      have h2 := coreF_sg i m _ (letL_core l h1)
      rw [h2]
      have h3 : sgL i l = sgL i ([turnB c] ++ l.tail.dropLast ++ [c]) := congrArg _ e
      rw [sgL_append, sgL_append, sgL_turn i hcl] at h3
      omega
    · rfl
theorem sums_core {l : List UInt8} (h : letL l = true) (h2 : letL (coreL l) = true) : sumsL (coreL l) = sumsL l := sums_eq h2 h fun i _ => coreF_sg i _ l h
/-! ### Putting -/
theorem img_turn (zs : List ByteArray) (hz : ∀ z ∈ zs, wordB z.data.toList = true) {c : UInt8} (hc : letB c = true) : imgL zs (turnB c) = backL (imgL zs c) := by
  have hl : letL (zs.getD (idxB c) ByteArray.empty).data.toList = true := by
    rw [List.getD_eq_getElem?_getD]
    cases h : zs[idxB c]? with
    | none => rfl
    | some z => exact ((wordB_iff _).1 (hz z (List.mem_of_getElem? h))).2.1
  have hi := (sg_turn hc).1
  unfold imgL
  rw [hi]
  have h := (letB_iff c).1 hc
  rcases h with h | h
  · have := turnB_hi c h.1
    rw [if_pos (by omega), if_neg (by omega)]
  · have := turnB_lo c (by omega)
    rw [if_neg (by omega), if_pos (by omega), back_back _ hl]
theorem putL_append (zs : List ByteArray) (a b : List UInt8) : putL zs (a ++ b) = putL zs a ++ putL zs b := by simp [putL]
theorem put_back (zs : List ByteArray) (hz : ∀ z ∈ zs, wordB z.data.toList = true) : ∀ s : List UInt8, letL s = true → putL zs (backL s) = backL (putL zs s)
  | [], _ => rfl
  | c :: s, h => by
    rw [letL_cons, Bool.and_eq_true] at h
    have e : backL (c :: s) = backL s ++ [turnB c] := by simp [backL]
    have e1 : putL zs [turnB c] = imgL zs (turnB c) := by simp [putL]
    have e2 : putL zs (c :: s) = imgL zs c ++ putL zs s := by simp [putL]
    rw [e, putL_append, put_back zs hz s h.2, e1, img_turn zs hz h.1, e2, backL_append]
def abcd : List ByteArray := [{ data := #[97] }, { data := #[98] }, { data := #[99] }, { data := #[100] }]
theorem abcd_four : fourB abcd = true := by decide +kernel
theorem abcd_tab : ∀ n : Fin 256, letB (UInt8.ofNat n.val) = true → imgL abcd (UInt8.ofNat n.val) = [UInt8.ofNat n.val] := by decide +kernel
theorem abcd_img {c : UInt8} (h : letB c = true) : imgL abcd c = [c] := by
  have := abcd_tab ⟨c.toNat, c.toNat_lt⟩
  simp only [UInt8.ofNat_toNat] at this
  exact this h
theorem abcd_put : ∀ s : List UInt8, letL s = true → putL abcd s = s
  | [], _ => rfl
  | c :: s, h => by
    rw [letL_cons, Bool.and_eq_true] at h
    have e2 : putL abcd (c :: s) = imgL abcd c ++ putL abcd s := by simp [putL]
    rw [e2, abcd_img h.1, abcd_put s h.2]; rfl
theorem put_let (zs : List ByteArray) (hz : ∀ z ∈ zs, wordB z.data.toList = true) (s : List UInt8) : letL (putL zs s) = true := (putX_eq zs s hz).2

/-! ### Words of letters that reduce to few -/
theorem word_of_red {s : List UInt8} (hl : letL s = true) (h : (redL [] s).length ≤ 60) : wordB (redL [] s) = true := (wordB_iff _).2 ⟨h, letL_red2 s [] hl rfl, red_red s⟩
theorem word_back {s : List UInt8} (h : wordB s = true) : wordB (backL s) = true := by
  obtain ⟨h1, h2, h3⟩ := (wordB_iff _).1 h
  exact (wordB_iff _).2 ⟨by rw [backL_length]; exact h1, letL_back s h2, red_back s h2 h3⟩

end Go.Proofs.Ytaaeiogdhmiaaaa

/- Plain lists of bytes, second part: words without cancellation; inverses of words; reducing in parts. -/
import Derived.Test.YtaaeiogdhmiaaaaMath
namespace Go.Proofs.Ytaaeiogdhmiaaaa

/-- No letter stands beside its inverse. -/
def noC (l : List UInt8) : Prop := ∀ p x y q, l = p ++ x :: y :: q → x ≠ turnB y

theorem noC_nil : noC [] := fun p x y q h => by simp at h
theorem noC_one (x : UInt8) : noC [x] := fun p a b q h => by
  have := congrArg List.length h
  simp at this
  omega
theorem noC_cons (x y : UInt8) (r : List UInt8) : noC (x :: y :: r) ↔ x ≠ turnB y ∧ noC (y :: r) := by
  constructor
  · exact fun h => ⟨h [] x y r rfl, fun p a b q e => h (x :: p) a b q (by rw [e]; rfl)⟩
  · rintro ⟨h1, h2⟩ p a b q e
    cases p with
    | nil =>
      simp at e
      obtain ⟨rfl, rfl, rfl⟩ := e
      exact h1
    | cons c p =>
      simp at e
      exact h2 p a b q e.2
theorem noC_left {a b : List UInt8} (h : noC (a ++ b)) : noC a := fun p x y q e => h p x y (q ++ b) (by rw [e]; simp)
theorem noC_snoc (l : List UInt8) (c : UInt8) (h : noC l) (hc : l.getLast? ≠ some (turnB c)) : noC (l ++ [c]) := by
  intro p x y q e
  rcases (show q = [] ∨ ∃ q' z, q = q' ++ [z] by
    cases q with
    | nil => exact .inl rfl
    | cons a q => exact .inr (last_split (a :: q) (by simp))) with rfl | ⟨q, z, rfl⟩
  · have e2 : l ++ [c] = (p ++ [x]) ++ [y] := by rw [e]; simp
    obtain ⟨e3, e4⟩ := List.append_inj' e2 rfl
    have e5 : c = y := by simpa using e4
    subst e5
    intro hx
    exact hc (by rw [e3, hx]; simp)
  · have e2 : l ++ [c] = (p ++ x :: y :: q) ++ [z] := by rw [e]; simp
    obtain ⟨e3, _⟩ := List.append_inj' e2 rfl
    exact h p x y q e3
theorem noC_step (l : List UInt8) (c : UInt8) (h : noC l) : noC (redStep l c) := by
  unfold redStep
  split
  · cases l with
    | nil => exact noC_nil
    | cons a l =>
      obtain ⟨p, x, hp⟩ := last_split (a :: l) (by simp)
      rw [hp] at h ⊢
      rw [List.dropLast_concat]; exact noC_left h
  · rename_i hc; exact noC_snoc l c h hc
theorem noC_red : ∀ (s l : List UInt8), noC l → noC (redL l s)
  | [], _, h => h
  | c :: s, l, h => noC_red s (redStep l c) (noC_step l c h)
theorem red_of_noC : ∀ (s l : List UInt8), noC (l ++ s) → redL l s = l ++ s
  | [], l, _ => by simp [redL]
  | c :: s, l, h => by
    have h1 : l.getLast? ≠ some (turnB c) := fun e => by
      obtain ⟨p, x, rfl⟩ := last_split l (by cases l with | nil => simp at e | cons a l => simp)
      have e2 : x = turnB c := by simpa using e
      exact h p x c s (by simp) e2
    have h2 : redStep l c = l ++ [c] := by unfold redStep; rw [if_neg h1]
    show redL (redStep l c) s = _
    rw [h2, red_of_noC s (l ++ [c]) (by simpa using h)]
    simp
theorem red_iff (s : List UInt8) : redL [] s = s ↔ noC s :=
  ⟨fun h => by rw [← h]; exact noC_red s [] noC_nil, fun h => by have := red_of_noC s [] (by simpa using h); simpa using this⟩
theorem red_red (s : List UInt8) : redL [] (redL [] s) = redL [] s := (red_iff _).2 (noC_red s [] noC_nil)
theorem red_append (a b : List UInt8) : redL [] (redL [] a ++ b) = redL [] (a ++ b) := by rw [redL_append, redL_append, red_red]

theorem turn_tab : ∀ n : Fin 256, letB (UInt8.ofNat n.val) = true → turnB (turnB (UInt8.ofNat n.val)) = UInt8.ofNat n.val ∧ letB (turnB (UInt8.ofNat n.val)) = true := by decide +kernel
theorem turn_turn (c : UInt8) (h : letB c = true) : turnB (turnB c) = c ∧ letB (turnB c) = true := by
  have := turn_tab ⟨c.toNat, c.toNat_lt⟩
  simp only [UInt8.ofNat_toNat] at this
  exact this h
theorem backL_append (a b : List UInt8) : backL (a ++ b) = backL b ++ backL a := by simp [backL]
theorem letL_back (l : List UInt8) (h : letL l = true) : letL (backL l) = true := List.all_eq_true.2 fun c hc => by
  simp only [backL, List.mem_map, List.mem_reverse] at hc
  obtain ⟨d, hd, rfl⟩ := hc
  exact (turn_turn d (List.all_eq_true.1 h d hd)).2
theorem back_back : ∀ (l : List UInt8), letL l = true → backL (backL l) = l
  | [], _ => rfl
  | c :: l, h => by
    rw [letL_cons, Bool.and_eq_true] at h
    have e : backL (c :: l) = backL l ++ [turnB c] := by simp [backL]
    rw [e, backL_append, back_back l h.2]
    show [turnB (turnB c)] ++ l = _
    rw [(turn_turn c h.1).1]; rfl
theorem noC_back (l : List UInt8) (hl : letL l = true) (h : noC l) : noC (backL l) := by
  intro p x y q e
  have e2 : l = backL q ++ turnB y :: turnB x :: backL p := by
    have := congrArg backL e
    rw [back_back l hl, show p ++ x :: y :: q = p ++ ([x, y] ++ q) by simp, backL_append, backL_append] at this
    rw [this]
    simp [backL]
  have hx : letB x = true := by
    have := letL_back l hl
    exact List.all_eq_true.1 this x (by rw [e]; simp)
  have h2 := h _ _ _ _ e2
  rw [(turn_turn x hx).1] at h2
  exact fun e3 => h2 e3.symm
theorem red_back (l : List UInt8) (hl : letL l = true) (h : redL [] l = l) : redL [] (backL l) = backL l := (red_iff _).2 (noC_back l hl ((red_iff l).1 h))
/-- The program's own inverse of a list of letters. -/
theorem inv_back (l : List UInt8) (h : letL l = true) : l.reverse.map invB = backL l := by
  unfold backL
  apply List.map_congr_left
  intro c hc
  exact invB_let c (List.all_eq_true.1 h c (List.mem_reverse.1 hc))
theorem redX_back (l : List UInt8) (hl : letL l = true) (h : redL [] l = l) : redX [] (l.reverse.map invB) = backL l := by
  rw [inv_back l hl, redX_eq _ _ (letL_back l hl), red_back l hl h]

/-- The place of a letter's generator; the letter's sign. -/
def idxB (c : UInt8) : Nat := if 97 ≤ c.toNat then c.toNat - 97 else c.toNat - 65
def sgnB (c : UInt8) : Int := if 97 ≤ c.toNat then 1 else -1
def sumsStep (z : List Int) (c : UInt8) : List Int := z.set (idxB c) (z[idxB c]?.getD 0 + sgnB c)
def sumsL (l : List UInt8) : List Int := l.foldl sumsStep [0, 0, 0, 0]
theorem sumsL_snoc (l : List UInt8) (c : UInt8) : sumsL (l ++ [c]) = sumsStep (sumsL l) c := by simp [sumsL]
theorem idxB_lt (c : UInt8) (h : letB c = true) : idxB c < 4 := by
  have := (letB_iff c).1 h
  unfold idxB; split <;> omega
theorem sumsL_inv : ∀ (l : List UInt8), letL l = true → (sumsL l).length = 4 ∧ ∀ z ∈ sumsL l, -(l.length : Int) ≤ z ∧ z ≤ l.length := by
  have key : ∀ (n : Nat) (l : List UInt8), l.length = n → letL l = true → (sumsL l).length = 4 ∧ ∀ z ∈ sumsL l, -(l.length : Int) ≤ z ∧ z ≤ l.length := by
    intro n
    induction n with
    | zero =>
      intro l hl _
      obtain rfl := List.length_eq_zero_iff.1 hl
      refine ⟨rfl, fun z hz => ?_⟩
      simp [sumsL] at hz
      subst hz; simp
    | succ n ih =>
      intro l hl hlet
      obtain ⟨p, c, rfl⟩ := last_split l (by omega)
      rw [letL_append, Bool.and_eq_true] at hlet
      have hp : p.length = n := by simp at hl; omega
      obtain ⟨h1, h2⟩ := ih p hp hlet.1
      rw [sumsL_snoc]
      refine ⟨by unfold sumsStep; simpa using h1, fun z hz => ?_⟩
      have hs : -1 ≤ sgnB c ∧ sgnB c ≤ 1 := by unfold sgnB; split <;> omega
      rw [List.length_append, List.length_singleton]
      unfold sumsStep at hz
      rcases List.mem_or_eq_of_mem_set hz with hz | rfl
      · have := h2 z hz; omega
      · have h3 : -(p.length : Int) ≤ (sumsL p)[idxB c]?.getD 0 ∧ (sumsL p)[idxB c]?.getD 0 ≤ p.length := by
          cases e : (sumsL p)[idxB c]? with
          | none => simp
          | some v => exact h2 v (List.mem_of_getElem? e)
        omega
  exact fun l h => key l.length l rfl h

/-- Letters as often behind themselves as told. -/
def repL (n : Nat) (l : List UInt8) : List UInt8 := (List.replicate n l).flatten
theorem repL_add (a b : Nat) (l : List UInt8) : repL a l ++ repL b l = repL (a + b) l := by
  unfold repL; rw [← List.flatten_append, List.replicate_append_replicate]
theorem repL_zero (l : List UInt8) : repL 0 l = [] := rfl
theorem repL_one (l : List UInt8) : repL 1 l = l := by simp [repL]
theorem repL_len (n : Nat) (l : List UInt8) : (repL n l).length = n * l.length := by
  induction n with
  | zero => simp [repL]
  | succ n ih => rw [← repL_add, List.length_append, ih, repL_one, Nat.succ_mul]
theorem letL_rep (n : Nat) (l : List UInt8) (h : letL l = true) : letL (repL n l) = true := by
  induction n with
  | zero => rfl
  | succ n ih => rw [← repL_add, letL_append, ih, repL_one, h]; rfl
/-- The letters of a power. -/
def powL (n : Int) (l : List UInt8) : List UInt8 := repL n.natAbs (if n < 0 then backL l else l)

end Go.Proofs.Ytaaeiogdhmiaaaa

/- How letters of braids act on words, over lists of bytes. -/
import Derived.Test.YtaaeiogdhmiaaaaCa
import Derived.Test.YtaaeiogdhmiaaaaMd
namespace Go.Proofs.Ytaaeiogdhmiaaaa
open Go.RowKit

def genC (i : Nat) : UInt8 := UInt8.ofNat (97 + i)
/-- The four words that a letter puts. -/
def bImg (c : UInt8) : List ByteArray :=
  if 97 ≤ c.toNat then (abcd.set (plN c) { data := #[genC (plN c), genC (plN c + 1), turnB (genC (plN c))] }).set (plN c + 1) { data := #[genC (plN c)] }
  else (abcd.set (plN c) { data := #[genC (plN c + 1)] }).set (plN c + 1) { data := #[turnB (genC (plN c + 1)), genC (plN c), genC (plN c + 1)] }

theorem bImg_tab : ∀ n : Fin 256, brB (UInt8.ofNat n.val) = true → (bImg (UInt8.ofNat n.val)).length = 4 ∧ (bImg (UInt8.ofNat n.val)).all (fun z => wordB z.data.toList && decide (z.size ≤ 3)) = true := by decide +kernel
theorem bImg_ok {c : UInt8} (h : brB c = true) : (bImg c).length = 4 ∧ ∀ z ∈ bImg c, wordB z.data.toList = true ∧ z.size ≤ 3 := by
  have := bImg_tab ⟨c.toNat, c.toNat_lt⟩
  simp only [UInt8.ofNat_toNat] at this
  obtain ⟨h1, h2⟩ := this h
  refine ⟨h1, fun z hz => ?_⟩
  have h3 := List.all_eq_true.1 h2 z hz
  simpa using h3
theorem bImg_word {c : UInt8} (h : brB c = true) : ∀ z ∈ bImg c, wordB z.data.toList = true := fun z hz => ((bImg_ok h).2 z hz).1

/-- What a letter makes of a word. -/
def actS (c : UInt8) (l : List UInt8) : List UInt8 := redL [] (putL (bImg c) l)
/-- What letters make of a word, if no word on the way is too long. -/
def actL : List UInt8 → List UInt8 → Option (List UInt8)
  | [], l => some l
  | c :: r, l => if (actS c l).length ≤ 60 then actL r (actS c l) else none
/-- What letters make of a word, however long. -/
def actF (b l : List UInt8) : List UInt8 := b.foldl (fun l c => actS c l) l

theorem actL_F : ∀ (b l r : List UInt8), actL b l = some r → r = actF b l
  | [], l, r, h => by simp [actL] at h; simp [actF, h]
  | c :: b, l, r, h => by
    unfold actL at h
    split at h
    · exact actL_F b _ r h
    · cases h
theorem actF_append (a b l : List UInt8) : actF (a ++ b) l = actF b (actF a l) := by simp [actF]
theorem actL_append : ∀ (a b l : List UInt8), actL (a ++ b) l = (actL a l).bind (actL b)
  | [], b, l => rfl
  | c :: a, b, l => by
    rw [List.cons_append]
    unfold actL
    split
    · exact actL_append a b _
    · rfl
theorem actL_len : ∀ (b l r : List UInt8), l.length ≤ 60 → actL b l = some r → r.length ≤ 60
  | [], l, r, hl, h => by simp [actL] at h; rw [← h]; exact hl
  | c :: b, l, r, _, h => by
    unfold actL at h
    split at h
    · exact actL_len b _ r (by assumption) h
    · cases h

theorem actS_let {c : UInt8} (hc : brB c = true) (l : List UInt8) : letL (actS c l) = true := letL_red2 _ [] (put_let _ (bImg_word hc) l) rfl
theorem actS_noC (c : UInt8) (l : List UInt8) : noC (actS c l) := noC_red _ [] noC_nil
theorem actS_word {c : UInt8} (hc : brB c = true) {l : List UInt8} (h : (actS c l).length ≤ 60) : wordB (actS c l) = true := word_of_red (put_let _ (bImg_word hc) l) h
theorem actF_let : ∀ (b : List UInt8), (∀ c ∈ b, brB c = true) → ∀ l, letL l = true → letL (actF b l) = true
  | [], _, l, h => h
  | c :: b, hb, l, _ => actF_let b (fun x hx => hb x (by simp [hx])) _ (actS_let (hb c (by simp)) l)
theorem actF_noC : ∀ (b : List UInt8) (l : List UInt8), noC l → noC (actF b l)
  | [], _, h => h
  | _ :: b, l, _ => actF_noC b _ (actS_noC _ l)
theorem actL_word : ∀ (b : List UInt8), (∀ c ∈ b, brB c = true) → ∀ (l r : List UInt8), wordB l = true → actL b l = some r → wordB r = true
  | [], _, l, r, hl, h => by simp [actL] at h; rw [← h]; exact hl
  | c :: b, hb, l, r, _, h => by
    unfold actL at h
    split at h
    · exact actL_word b (fun x hx => hb x (by simp [hx])) _ r (actS_word (hb c (by simp)) (by assumption)) h
    · cases h

/-! ### Putting goes along products -/
theorem red_mid {s : List UInt8} (hs : letL s = true) (a b : List UInt8) : redL [] (a ++ backL s ++ s ++ b) = redL [] (a ++ b) := by
  rw [redL_append, red_inv2 hs, ← redL_append]
theorem put_red_acc (zs : List ByteArray) (hz : ∀ z ∈ zs, wordB z.data.toList = true) : ∀ (s acc : List UInt8), letL s = true → redL [] (putL zs (redL acc s)) = redL [] (putL zs (acc ++ s))
  | [], acc, _ => by simp [redL]
  | c :: r, acc, h => by
    have hc : letB c = true := by simp [letL] at h; exact h.1
    have hr : letL r = true := by simp [letL] at h ⊢; exact h.2
    rw [show redL acc (c :: r) = redL (redStep acc c) r from rfl, put_red_acc zs hz r _ hr]
    rcases List.eq_nil_or_concat acc with rfl | ⟨p, x, rfl⟩
    · rw [redStep_nil]; rfl
    · rw [List.concat_eq_append] at *
      by_cases hx : x = turnB c
      · rw [redStep_pop p x c hx, hx]
        have e1 : putL zs (p ++ [turnB c] ++ c :: r) = putL zs p ++ backL (imgL zs c) ++ imgL zs c ++ putL zs r := by
          rw [show p ++ [turnB c] ++ c :: r = p ++ ([turnB c] ++ ([c] ++ r)) by simp, putL_append, putL_append, putL_append]
          rw [show putL zs [turnB c] = backL (imgL zs c) by rw [← img_turn zs hz hc]; simp [putL], show putL zs [c] = imgL zs c by simp [putL]]
          simp
        rw [e1, red_mid (imgX_eq zs hz c).2, putL_append]
      · rw [redStep_push p x c hx]; simp
theorem put_red (zs : List ByteArray) (hz : ∀ z ∈ zs, wordB z.data.toList = true) (s : List UInt8) (h : letL s = true) : redL [] (putL zs (redL [] s)) = redL [] (putL zs s) := by
  have := put_red_acc zs hz s [] h
  simpa using this
/-- Words put letter by letter, the same for each letter. -/
theorem hom_eq (f g : UInt8 → List UInt8) (hf : ∀ c, letB c = true → letL (f c) = true ∧ letL (g c) = true ∧ redL [] (f c) = redL [] (g c)) : ∀ s : List UInt8, letL s = true → redL [] (s.map f).flatten = redL [] (s.map g).flatten ∧ letL (s.map f).flatten = true ∧ letL (s.map g).flatten = true
  | [], _ => ⟨rfl, rfl, rfl⟩
  | c :: r, h => by
    have hc : letB c = true := by simp [letL] at h; exact h.1
    have hr : letL r = true := by simp [letL] at h ⊢; exact h.2
    obtain ⟨h1, h2, h3⟩ := hf c hc
    obtain ⟨i1, i2, i3⟩ := hom_eq f g hf r hr
    simp only [List.map_cons, List.flatten_cons]
    refine ⟨?_, by rw [letL_append, h1, i2]; rfl, by rw [letL_append, h2, i3]; rfl⟩
    rw [← red_both i2, h3, i1, red_both i3]
/-- Letters, one behind the other, as one. -/
def compS : List UInt8 → List UInt8 → List UInt8
  | [], l => l
  | c :: b, l => compS b (putL (bImg c) l)
theorem compS_let : ∀ (b : List UInt8), (∀ c ∈ b, brB c = true) → ∀ l, letL l = true → letL (compS b l) = true
  | [], _, l, h => h
  | c :: b, hb, l, _ => compS_let b (fun x hx => hb x (by simp [hx])) _ (put_let _ (bImg_word (hb c (by simp))) l)
theorem compS_red : ∀ (b : List UInt8), (∀ c ∈ b, brB c = true) → ∀ l, letL l = true → redL [] (compS b (redL [] l)) = redL [] (compS b l)
  | [], _, l, _ => red_red l
  | c :: b, hb, l, h => by
    have hb' : ∀ x ∈ b, brB x = true := fun x hx => hb x (by simp [hx])
    have hz := bImg_word (hb c (by simp))
    have hl2 := put_let _ hz l
    have hl3 := put_let _ hz (redL [] l)
    show redL [] (compS b (putL (bImg c) (redL [] l))) = redL [] (compS b (putL (bImg c) l))
    rw [← compS_red b hb' _ hl3, put_red _ hz l h, compS_red b hb' _ hl2]
theorem actF_comp : ∀ (b : List UInt8), (∀ c ∈ b, brB c = true) → ∀ l, letL l = true → noC l → actF b l = redL [] (compS b l)
  | [], _, l, _, hn => ((red_iff l).2 hn).symm
  | c :: b, hb, l, h, _ => by
    have hb' : ∀ x ∈ b, brB x = true := fun x hx => hb x (by simp [hx])
    have hc := hb c (by simp)
    show actF b (actS c l) = _
    rw [actF_comp b hb' _ (actS_let hc l) (actS_noC c l)]
    exact compS_red b hb' _ (put_let _ (bImg_word hc) l)
theorem compS_append : ∀ (b : List UInt8) (l m : List UInt8), compS b (l ++ m) = compS b l ++ compS b m
  | [], _, _ => rfl
  | c :: b, l, m => by
    show compS b (putL (bImg c) (l ++ m)) = compS b (putL (bImg c) l) ++ compS b (putL (bImg c) m)
    rw [putL_append, compS_append]
theorem compS_nil : ∀ (b : List UInt8), compS b [] = []
  | [] => rfl
  | _ :: b => compS_nil b
theorem compS_map : ∀ (b l : List UInt8), compS b l = (l.map fun c => compS b [c]).flatten
  | b, [] => by rw [compS_nil]; rfl
  | b, c :: l => by
    rw [show c :: l = [c] ++ l from rfl, compS_append, compS_map b l]; simp
/-- Braids that act the same on letters act the same. -/
theorem act_same (a b : List UInt8) (ha : ∀ c ∈ a, brB c = true) (hb : ∀ c ∈ b, brB c = true) (h : ∀ c, letB c = true → redL [] (compS a [c]) = redL [] (compS b [c])) (l : List UInt8) (hl : letL l = true) (hn : noC l) : actF a l = actF b l := by
  rw [actF_comp a ha l hl hn, actF_comp b hb l hl hn, compS_map a l, compS_map b l]
  exact (hom_eq _ _ (fun c hc => ⟨compS_let a ha _ (by simp [letL, hc]), compS_let b hb _ (by simp [letL, hc]), h c hc⟩) l hl).1
theorem act_back (b : List UInt8) (hb : ∀ c ∈ b, brB c = true) (l : List UInt8) (hl : letL l = true) : compS b (backL l) = backL (compS b l) := by
  induction b generalizing l with
  | nil => rfl
  | cons c r ih =>
    have hz := bImg_word (hb c (by simp))
    show compS r (putL (bImg c) (backL l)) = backL (compS r (putL (bImg c) l))
    rw [put_back _ hz l hl, ih (fun x hx => hb x (by simp [hx])) _ (put_let _ hz l)]

end Go.Proofs.Ytaaeiogdhmiaaaa

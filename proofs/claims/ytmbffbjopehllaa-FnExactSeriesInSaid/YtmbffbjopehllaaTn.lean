/- The contracts of the model's 'l2Done' and 'SumOf'. -/
import Derived.Test.YtmbffbjopehllaaTm
import Derived.Test.YtmbffbjopehllaaTe
namespace Go.Proofs.Ytmbffbjopehllaa
open Go.RowKit Go.Shelf

/-- A slice value of the call's own that holds terms; nil where there are none, maybe. -/
def OwnT (base : Nat) (w : World) (v : Value) (ts : List Tm) : Prop := w.ownsRow base TI 2 v ts.length (termsV ts)
theorem OwnTerms.own {base : Nat} {w : World} {v : Value} {ts : List Tm} (h : OwnTerms base w v ts) : OwnT base w v ts := by obtain ⟨g, cap, _, h⟩ := h; exact h
theorem OwnT.mono {b1 b2 : Nat} {w : World} {v : Value} {ts : List Tm} (h : OwnT b1 w v ts) (hb : b2 ≤ b1) : OwnT b2 w v ts := ownsRow_base h hb
theorem OwnT.below {base : Nat} {w w' : World} {v : Value} {ts : List Tm} (h : OwnT base w v ts) (hb : Below w.heap.size w w') : OwnT base w' v ts :=
  h.kept ⟨hb.os, hb.tape, hb.output, hb.size, fun j hj _ => hb.block j hj⟩ (row := none) (by
    rcases h.2 with ⟨rfl, _⟩ | ⟨g, cap, cur, rfl, _⟩
    · exact .inl rfl
    · exact .inr (by simp [Value.ownBlock]))
theorem OwnTerms.below {base : Nat} {w w' : World} {v : Value} {ts : List Tm} (h : OwnTerms base w v ts) (hb : Below w.heap.size w w') : OwnTerms base w' v ts := by
  have h2 := h.own.below hb
  obtain ⟨g, cap, e, _⟩ := h
  exact ⟨g, cap, e, h2⟩
theorem OwnTerms.mono {b1 b2 : Nat} {w : World} {v : Value} {ts : List Tm} (h : OwnTerms b1 w v ts) (hb : b2 ≤ b1) : OwnTerms b2 w v ts := by
  obtain ⟨g, cap, e, h⟩ := h
  exact ⟨g, cap, e, ownsRow_base h hb⟩
/-- What fits into an integer of 64 bits and into a text. -/
def SmallT (ts : List Tm) : Prop := ts.length ≤ maxLen ∧ ∀ t ∈ ts, t.s.size ≤ maxLen ∧ -9223372036854775808 ≤ t.c ∧ t.c ≤ 9223372036854775807
theorem OwnT.isTerms {base : Nat} {w : World} {v : Value} {ts : List Tm} (h : OwnT base w v ts) (hs : SmallT ts) : ∃ a cap, v = .slice a ts.length cap ∧ IsTerms w a ts.length ts := by
  rcases h.2 with ⟨rfl, h0⟩ | ⟨g, cap, cur, rfl, hb, hg, hn, hc, _⟩
  · exact ⟨none, 0, by rw [h0], rfl, hs.1, fun hp => absurd hp (by omega), hs.2⟩
  · exact ⟨_, cap, rfl, rfl, hs.1, fun _ => ⟨_, rfl, termsAt_of_owns rfl h⟩, hs.2⟩
theorem OwnTerms.form {base : Nat} {w : World} {v : Value} {ts : List Tm} (h : OwnTerms base w v ts) : ∃ g cap, v = .slice (some ⟨g, 0, none⟩) ts.length cap ∧ TermsAt w ⟨g, 0, none⟩ ts ∧ ts.length ≤ cap ∧ cap ≤ maxLen ∧ base ≤ g := by
  obtain ⟨g, cap, rfl, h⟩ := h
  obtain ⟨h1, h2, h3, _⟩ := ownsRow_cap h
  exact ⟨g, cap, rfl, termsAt_of_owns rfl h, h1, h2, h3⟩
theorem ownEmpty (w : World) : OwnTerms w.heap.size (w.alloc (.cells #[] TI)) (.slice (some ⟨w.heap.size, 0, none⟩) 0 0) [] :=
  ⟨_, _, rfl, World.ownsRow_made w #[] 0 (Nat.le_refl _) (Nat.zero_le _) rfl⟩

theorem add_bound {t : Tm} {B C : Int} (hC : 0 ≤ C) (ht : -C ≤ t.c ∧ t.c ≤ C) : ∀ {ts : List Tm}, (∀ u ∈ ts, -B ≤ u.c ∧ u.c ≤ B) → 0 ≤ B → ∀ u ∈ addT ts t, -(B + C) ≤ u.c ∧ u.c ≤ B + C
  | [], _, hB, u, hu => by rw [addT] at hu; rw [(nz_mem hu).1]; omega
  | x :: r, h, hB, u, hu => by
    rw [addT] at hu
    have hx := h x (by simp)
    split at hu
    · rcases List.mem_cons.1 hu with rfl | hu
      · omega
      · exact add_bound hC ht (fun v hv => h v (by simp [hv])) hB u hu
    · split at hu
      · rcases List.mem_append.1 hu with hu | hu
        · rw [(nz_mem hu).1]; show -(B + C) ≤ t.c + x.c ∧ t.c + x.c ≤ B + C; omega
        · have := h u (by simp [hu]); omega
      · rcases List.mem_append.1 hu with hu | hu
        · rw [(nz_mem hu).1]; omega
        · have := h u hu; omega
theorem add_len (t : Tm) : ∀ ts : List Tm, (addT ts t).length ≤ ts.length + 1
  | [] => by rw [addT]; unfold nz; split <;> simp
  | x :: r => by
    have h0 : ∀ y : Tm, (nz y).length ≤ 1 := fun y => by unfold nz; split <;> simp
    rw [addT]
    split
    · have := add_len t r; simp only [List.length_cons]; omega
    · split
      · have := h0 ⟨t.c + x.c, t.s⟩; simp only [List.length_append, List.length_cons]; omega
      · have := h0 t; simp only [List.length_append, List.length_cons]; omega
theorem add_small {t : Tm} {ts : List Tm} {M : Nat} (ht : t.s.size ≤ M) (h : ∀ u ∈ ts, u.s.size ≤ M) : ∀ u ∈ addT ts t, u.s.size ≤ M := fun u hu => by
  rcases add_words hu with e | ⟨v, hv, e⟩
  · rw [e]; exact ht
  · rw [← e]; exact h v hv

/-- A list that grows term by term. -/
structure Acc (base : Nat) (w : World) (v : Value) (acc : List Tm) (N : Nat) (B : Int) : Prop where
  own : OwnTerms base w v acc
  len : acc.length ≤ N
  bnd : ∀ u ∈ acc, -B ≤ u.c ∧ u.c ≤ B
  sml : ∀ u ∈ acc, u.s.size ≤ 60
theorem Acc.below {base : Nat} {w w' : World} {v : Value} {acc : List Tm} {N : Nat} {B : Int} (h : Acc base w v acc N B) (hb : Below w.heap.size w w') : Acc base w' v acc N B := ⟨h.own.below hb, h.len, h.bnd, h.sml⟩
theorem Acc.small {base : Nat} {w : World} {v : Value} {acc : List Tm} {N : Nat} {B : Int} (h : Acc base w v acc N B) (hN : N ≤ 200000) (hB : B ≤ 4000000000000000000) : SmallT acc :=
  ⟨by have := h.len; unfold maxLen; omega, fun u hu => by
    have h1 := h.bnd u hu
    have h2 := h.sml u hu
    unfold maxLen
    omega⟩

/-- The model's step: one term more. -/
theorem step_any (base : Nat) (v : Value) (acc : List Tm) (N : Nat) (B C : Int) (c : Int) (s : ByteArray) (w : World) (h : Acc base w v acc N B) (hN : N ≤ 200000) (hB : 0 ≤ B) (hC : 0 ≤ C) (hBC : B + C ≤ 4000000000000000000)
    (hc : -C ≤ c ∧ c ≤ C) (hs : s.size ≤ 60) (hbase : base ≤ w.heap.size) :
    Calls Try.prog 72 #[v, .int .i64 c, .string s] w fun e w' => (∃ v', e = .returned v' ∧ Acc base w' v' (addT acc ⟨c, s⟩) (N + 1) (B + C)) ∧ Below w.heap.size w w' := by
  obtain ⟨g, cap, rfl, h1, h2, h3, h4⟩ := h.own.form
  refine (l2Add_any g cap acc.length acc c s w rfl (by have := h.len; omega) h1 h2 h3 (by omega) (by omega) (fun t ht => by have := h.bnd t ht; omega)).mono ?_
  rintro e w' ⟨⟨v', rfl, ho⟩, hb⟩
  exact ⟨⟨v', rfl, ho.mono hbase, by have := add_len ⟨c, s⟩ acc; have := h.len; omega, add_bound hC hc h.bnd hB, add_small hs h.sml⟩, hb⟩

/-- What a function of the model hands back: a list and true, or an empty one and false. -/
def STold (w : World) (b : Bool) (us : List Tm) (e : Ending) (w' : World) : Prop := (∃ v', e = .returned (.tuple #[v', .bool b]) ∧ OwnTerms w.heap.size w' v' (cond b us [])) ∧ Below w.heap.size w w'


end Go.Proofs.Ytmbffbjopehllaa

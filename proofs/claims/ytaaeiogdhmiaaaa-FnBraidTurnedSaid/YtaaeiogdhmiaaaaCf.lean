/- Laws of acting: relations, far letters, inverses, the product of all generators, conjugates of generators. -/
import Derived.Test.YtaaeiogdhmiaaaaCe
namespace Go.Proofs.Ytaaeiogdhmiaaaa
open Go.RowKit

theorem brLet_tab : ∀ n : Fin 256, brB (UInt8.ofNat n.val) = true → UInt8.ofNat n.val ∈ [120, 121, 122, 88, 89, 90] := by decide +kernel
theorem brB_mem {c : UInt8} (h : brB c = true) : c ∈ ([120, 121, 122, 88, 89, 90] : List UInt8) := by
  have := brLet_tab ⟨c.toNat, c.toNat_lt⟩
  simp only [UInt8.ofNat_toNat] at this
  exact this h
theorem let_tab : ∀ n : Fin 256, letB (UInt8.ofNat n.val) = true → UInt8.ofNat n.val ∈ [97, 98, 99, 100, 65, 66, 67, 68] := by decide +kernel
theorem letB_mem {c : UInt8} (h : letB c = true) : c ∈ ([97, 98, 99, 100, 65, 66, 67, 68] : List UInt8) := by
  have := let_tab ⟨c.toNat, c.toNat_lt⟩
  simp only [UInt8.ofNat_toNat] at this
  exact this h

theorem rel_all : ∀ c ∈ ([97, 98, 99, 100, 65, 66, 67, 68] : List UInt8), redL [] (compS [120, 121, 120] [c]) = redL [] (compS [121, 120, 121] [c]) := by decide +kernel
theorem far_all : ∀ c ∈ ([97, 98, 99, 100, 65, 66, 67, 68] : List UInt8), redL [] (compS [120, 122] [c]) = redL [] (compS [122, 120] [c]) := by decide +kernel
theorem act_rel (b l : List UInt8) (hb : ∀ c ∈ b, brB c = true) (hl : letL l = true) (hn : noC l) : actF (b ++ [120, 121, 120]) l = actF (b ++ [121, 120, 121]) l := by
  rw [actF_append, actF_append]
  exact act_same _ _ (by decide) (by decide) (fun c hc => rel_all c (letB_mem hc)) _ (actF_let b hb l hl) (actF_noC b l hn)
theorem act_far (b l : List UInt8) (hb : ∀ c ∈ b, brB c = true) (hl : letL l = true) (hn : noC l) : actF (b ++ [120, 122]) l = actF (b ++ [122, 120]) l := by
  rw [actF_append, actF_append]
  exact act_same _ _ (by decide) (by decide) (fun c hc => far_all c (letB_mem hc)) _ (actF_let b hb l hl) (actF_noC b l hn)

/-! ### Inverses -/
theorem turn_all : ∀ x ∈ ([120, 121, 122, 88, 89, 90] : List UInt8), ∀ c ∈ ([97, 98, 99, 100, 65, 66, 67, 68] : List UInt8), redL [] (compS [x, turnB x] [c]) = [c] := by decide +kernel
theorem act_turn (x : UInt8) (hx : brB x = true) (l : List UInt8) (hl : letL l = true) (hn : noC l) : actF [x, turnB x] l = l := by
  have h := act_same [x, turnB x] [] (fun c hc => by
      rcases List.mem_cons.1 hc with rfl | hc
      · exact hx
      · obtain rfl := List.mem_singleton.1 hc
        exact (brB_turn hx).2.1) (fun c hc => by cases hc) (fun c hc => by
      rw [turn_all x (brB_mem hx) c (letB_mem hc)]
      exact ((red_iff _).2 (noC_one c)).symm) l hl hn
  rw [h]; rfl
theorem act_turned : ∀ (b : List UInt8), (∀ c ∈ b, brB c = true) → ∀ l, letL l = true → noC l → actF (backL b) (actF b l) = l
  | [], _, l, _, _ => rfl
  | x :: b, hb, l, hl, hn => by
    have hx := hb x (by simp)
    have hb' : ∀ c ∈ b, brB c = true := fun c hc => hb c (by simp [hc])
    have e : backL (x :: b) = backL b ++ [turnB x] := by rw [show x :: b = [x] ++ b from rfl, backL_append]; simp [backL]
    rw [e, actF_append, show actF (x :: b) l = actF b (actS x l) from rfl, act_turned b hb' _ (actS_let hx l) (actS_noC x l)]
    exact act_turn x hx l hl hn

/-! ### The product of all generators -/
def gensL (n : Nat) : List UInt8 := [97, 98, 99, 100].take n
theorem prod_all : ∀ n ∈ [2, 3, 4], ∀ x ∈ ([120, 121, 122, 88, 89, 90] : List UInt8), plN x + 1 < n → actS x (gensL n) = gensL n := by decide +kernel
theorem act_prod (n : Nat) (hn : 2 ≤ n ∧ n ≤ 4) : ∀ (b : List UInt8), (∀ c ∈ b, brB c = true ∧ plN c + 1 < n) → actF b (gensL n) = gensL n
  | [], _ => rfl
  | x :: b, hb => by
    obtain ⟨hx, hp⟩ := hb x (by simp)
    show actF b (actS x (gensL n)) = _
    rw [prod_all n (by simp; omega) x (brB_mem hx) hp]
    exact act_prod n hn b fun c hc => hb c (by simp [hc])

/-! ### Conjugates of generators -/
/-- The word is a generator, or a conjugate of one. -/
def isGen (g : UInt8) : Bool := decide (97 ≤ g.toNat ∧ g.toNat ≤ 100)
theorem isGen_let {g : UInt8} (h : isGen g = true) : letB g = true := by
  unfold isGen at h; rw [decide_eq_true_eq] at h
  exact (letB_iff g).2 (.inl h)
/-- The generator to a conjugate of which a letter takes a generator, and by which word. -/
def cGen (x g : UInt8) : UInt8 := if g = genC (plN x) then genC (plN x + 1) else if g = genC (plN x + 1) then genC (plN x) else g
def cWord (x g : UInt8) : List UInt8 :=
  if 97 ≤ x.toNat then (if g = genC (plN x) then [g] else []) else (if g = genC (plN x + 1) then [turnB g] else [])
theorem conj_all : ∀ x ∈ ([120, 121, 122, 88, 89, 90] : List UInt8), ∀ g ∈ ([97, 98, 99, 100] : List UInt8), isGen (cGen x g) = true ∧ letL (cWord x g) = true ∧ redL [] (putL (bImg x) [g]) = redL [] (cWord x g ++ [cGen x g] ++ backL (cWord x g)) := by decide +kernel
theorem gen_mem {g : UInt8} (h : isGen g = true) : g ∈ ([97, 98, 99, 100] : List UInt8) := by
  have ht : ∀ n : Fin 256, isGen (UInt8.ofNat n.val) = true → UInt8.ofNat n.val ∈ [97, 98, 99, 100] := by decide +kernel
  have := ht ⟨g.toNat, g.toNat_lt⟩
  simp only [UInt8.ofNat_toNat] at this
  exact this h
/-- A letter takes a conjugate to a conjugate. -/
theorem act_conj (x : UInt8) (hx : brB x = true) (u : List UInt8) (hu : letL u = true) (g : UInt8) (hg : isGen g = true) :
    ∃ v, letL v = true ∧ actS x (redL [] (u ++ [g] ++ backL u)) = redL [] (v ++ [cGen x g] ++ backL v) := by
  obtain ⟨c1, c2, c3⟩ := conj_all x (brB_mem hx) g (gen_mem hg)
  have hz := bImg_word hx
  have hgl : letL [g] = true := by simp [letL, isGen_let hg]
  have hcl : letL [cGen x g] = true := by simp [letL, isGen_let c1]
  have hpu := put_let _ hz u
  have hb2 := letL_back _ hpu
  have hcb := letL_back _ c2
  refine ⟨putL (bImg x) u ++ cWord x g, by rw [letL_append, hpu, c2]; rfl, ?_⟩
  unfold actS
  rw [put_red _ hz _ (by rw [letL_append, letL_append, hu, hgl, letL_back _ hu]; rfl), putL_append, putL_append, put_back _ hz u hu]
  rw [← red_append (putL (bImg x) u ++ putL (bImg x) [g]), ← red_right (put_let _ hz [g]), c3, red_right (b := cWord x g ++ [cGen x g] ++ backL (cWord x g)) (by rw [letL_append, letL_append, c2, hcl, hcb]; rfl), red_append, backL_append]
  simp
/-- Where a braid takes a generator. -/
def cGens : List UInt8 → UInt8 → UInt8
  | [], g => g
  | x :: b, g => cGens b (cGen x g)
theorem cGens_gen : ∀ (b : List UInt8), (∀ c ∈ b, brB c = true) → ∀ g, isGen g = true → isGen (cGens b g) = true
  | [], _, g, h => h
  | x :: b, hb, g, h => cGens_gen b (fun c hc => hb c (by simp [hc])) _ (conj_all x (brB_mem (hb x (by simp))) g (gen_mem h)).1
theorem acts_conj : ∀ (b : List UInt8), (∀ c ∈ b, brB c = true) → ∀ (u : List UInt8), letL u = true → ∀ g, isGen g = true →
    ∃ v, letL v = true ∧ actF b (redL [] (u ++ [g] ++ backL u)) = redL [] (v ++ [cGens b g] ++ backL v)
  | [], _, u, hu, g, _ => ⟨u, hu, rfl⟩
  | x :: b, hb, u, hu, g, hg => by
    have hx := hb x (by simp)
    obtain ⟨v, hv, e⟩ := act_conj x hx u hu g hg
    have hg2 := (conj_all x (brB_mem hx) g (gen_mem hg)).1
    show ∃ v, letL v = true ∧ actF b (actS x _) = _
    rw [e]
    exact acts_conj b (fun c hc => hb c (by simp [hc])) v hv _ hg2
theorem cGen_inj : ∀ x ∈ ([120, 121, 122, 88, 89, 90] : List UInt8), ∀ g ∈ ([97, 98, 99, 100] : List UInt8), ∀ h ∈ ([97, 98, 99, 100] : List UInt8), cGen x g = cGen x h → g = h := by decide +kernel
theorem cGens_inj : ∀ (b : List UInt8), (∀ c ∈ b, brB c = true) → ∀ g h, isGen g = true → isGen h = true → cGens b g = cGens b h → g = h
  | [], _, g, h, _, _, e => e
  | x :: b, hb, g, h, hg, hh, e => by
    have hx := hb x (by simp)
    have := cGens_inj b (fun c hc => hb c (by simp [hc])) _ _ (conj_all x (brB_mem hx) g (gen_mem hg)).1 (conj_all x (brB_mem hx) h (gen_mem hh)).1 e
    exact cGen_inj x (brB_mem hx) g (gen_mem hg) h (gen_mem hh) this

/-! ### Cores of conjugates -/
theorem noC_join {a b : List UInt8} (x : UInt8) (h1 : noC (a ++ [x])) (h2 : noC (x :: b)) : noC (a ++ x :: b) := by
  intro p s t q e
  rcases List.append_eq_append_iff.1 e with ⟨c, hp, hc⟩ | ⟨c, ha, hc⟩
  · exact h2 c s t q hc
  · match c, hc with
    | [], hc => exact h2 [] s t q (by simpa using hc.symm)
    | [y], hc =>
      simp at hc
      obtain ⟨rfl, rfl, _⟩ := hc
      exact h1 p s t [] (by rw [ha]; simp)
    | y :: z :: d, hc =>
      simp at hc
      obtain ⟨rfl, rfl, _⟩ := hc
      exact h1 p s t (d ++ [x]) (by rw [ha]; simp)
theorem core_conj (g : UInt8) : ∀ (u : List UInt8), letL u = true → ∀ m, u.length ≤ m → coreF m (u ++ [g] ++ backL u) = [g]
  | [], _, m, _ => by
    rw [show ([] : List UInt8) ++ [g] ++ backL [] = [g] from rfl]
    exact coreF_false (by simp [coreC]) m
  | c :: r, h, m, hm => by
    have hc : letB c = true := by simp [letL] at h; exact h.1
    have hr : letL r = true := by simp [letL] at h ⊢; exact h.2
    obtain ⟨k, rfl⟩ : ∃ k, m = k + 1 := ⟨m - 1, by simp at hm; omega⟩
    obtain ⟨M, hM⟩ : ∃ M, r ++ [g] ++ backL r = M := ⟨_, rfl⟩
    have e : c :: r ++ [g] ++ backL (c :: r) = [c] ++ M ++ [turnB c] := by
      rw [show backL (c :: r) = backL r ++ [turnB c] by rw [show c :: r = [c] ++ r from rfl, backL_append]; simp [backL], ← hM]
      simp
    have hcc : coreC ([c] ++ M ++ [turnB c]) = true := by
      unfold coreC
      rw [Bool.and_eq_true, decide_eq_true_eq, decide_eq_true_eq]
      refine ⟨by simp, ?_⟩
      have h1 : ([c] ++ M ++ [turnB c]).getLast? = some (turnB c) := List.getLast?_concat
      rw [h1]
      simp [(turn_turn c hc).1]
    rw [e, coreF_true hcc]
    have e2 : ([c] ++ M ++ [turnB c]).tail.dropLast = M := by simp
    rw [e2, ← hM]
    exact core_conj g r hr k (by simp at hm; omega)
/-- The core of a reduced conjugate of a generator is the generator. -/
theorem core_red_conj (g : UInt8) (hg : letB g = true) : ∀ (n : Nat) (u : List UInt8), u.length ≤ n → letL u = true → noC u → coreL (redL [] (u ++ [g] ++ backL u)) = [g] := by
  intro n
  induction n with
  | zero =>
    intro u hu _ _
    obtain rfl := List.length_eq_zero_iff.1 (Nat.le_zero.1 hu)
    rw [show ([] : List UInt8) ++ [g] ++ backL [] = [g] from rfl, (red_iff _).2 (noC_one g)]
    unfold coreL
    exact coreF_false (by simp [coreC]) _
  | succ n ih =>
    intro u hu hl hn
    rcases List.eq_nil_or_concat u with rfl | ⟨v, x, rfl⟩
    · exact ih [] (Nat.zero_le _) hl hn
    · rw [List.concat_eq_append] at *
      have hv : letL v = true := by rw [letL_append] at hl; simp at hl; exact hl.1
      have hx : letB x = true := by rw [letL_append] at hl; simp [letL] at hl; exact hl.2
      have hnv : noC v := noC_left hn
      have hlen : v.length ≤ n := by simp at hu; omega
      have hgl : letL [g] = true := by simp [letL, hg]
      have eb : backL (v ++ [x]) = [turnB x] ++ backL v := by rw [backL_append]; simp [backL]
      by_cases h1 : x = g
      · have : redL [] (v ++ [x] ++ [g] ++ backL (v ++ [x])) = redL [] (v ++ [g] ++ backL v) := by
          rw [eb, h1]
          have e : v ++ [g] ++ [g] ++ ([turnB g] ++ backL v) = (v ++ [g]) ++ backL (backL [g]) ++ backL [g] ++ backL v := by
            rw [back_back [g] hgl]; simp [backL]
          rw [e, red_mid (letL_back _ hgl)]
        rw [this]
        exact ih v hlen hv hnv
      · by_cases h2 : x = turnB g
        · have : redL [] (v ++ [x] ++ [g] ++ backL (v ++ [x])) = redL [] (v ++ [g] ++ backL v) := by
            rw [eb, h2, (turn_turn g hg).1]
            have e : v ++ [turnB g] ++ [g] ++ ([g] ++ backL v) = v ++ backL [g] ++ [g] ++ ([g] ++ backL v) := by simp [backL]
            rw [e, red_mid hgl]; simp
          rw [this]
          exact ih v hlen hv hnv
        · have hnc : noC (v ++ [x] ++ [g] ++ backL (v ++ [x])) := by
            have a1 : noC (v ++ [x] ++ [g]) := noC_snoc _ _ hn (by simp; exact h2)
            have a2 : noC (g :: backL (v ++ [x])) := by
              have hb := noC_back _ hl hn
              rw [eb] at hb ⊢
              show noC (g :: turnB x :: backL v)
              exact (noC_cons _ _ _).2 ⟨by rw [(turn_turn x hx).1]; exact fun e => h1 e.symm, hb⟩
            have := noC_join g a1 a2
            simpa using this
          rw [(red_iff _).2 hnc]
          unfold coreL
          exact core_conj g _ hl _ (by simp)
theorem conj_red {u : List UInt8} (hu : letL u = true) (g : UInt8) : redL [] (u ++ [g] ++ backL u) = redL [] (redL [] u ++ [g] ++ backL (redL [] u)) := by
  have e : redL [] u ++ [g] ++ backL u = redL [] u ++ ([g] ++ backL u) := by simp
  rw [back_red hu, red_right (letL_back _ hu), e, red_append]
  simp
/-- A braid takes a generator to a conjugate whose core is a generator. -/
theorem act_core (b : List UInt8) (hb : ∀ c ∈ b, brB c = true) (g : UInt8) (hg : isGen g = true) : coreL (actF b [g]) = [cGens b g] := by
  obtain ⟨v, hv, e⟩ := acts_conj b hb [] rfl g hg
  rw [show ([] : List UInt8) ++ [g] ++ backL [] = [g] from rfl, (red_iff _).2 (noC_one g)] at e
  have h2 := isGen_let (cGens_gen b hb g hg)
  rw [e, conj_red hv]
  exact core_red_conj _ h2 _ _ (Nat.le_refl _) (letL_red2 _ [] hv rfl) (noC_red _ [] noC_nil)

end Go.Proofs.Ytaaeiogdhmiaaaa

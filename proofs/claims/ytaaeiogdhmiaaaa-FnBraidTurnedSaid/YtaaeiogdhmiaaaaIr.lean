/- A loop over an iterator whose own body may hold such a loop: what a round keeps; the loop's law for bodies that never leave it. -/
import Derived.Test.YtaaeiogdhmiaaaaIa
namespace Go.Proofs.Ytaaeiogdhmiaaaa
open Go.RowKit Go.Shelf

abbrev encB (c : UInt8) : Array Value := #[.int .u8 (c.toNat : Int)]
/-- The type of a row's letters. -/
abbrev TL : TypeId := 77

/-- Cells that are no letters lie as they lay, but for the box B. -/
def KeepT (B : Nat) (W W' : World) : Prop := ∀ k cs t r, W.heap[k]? = some (.cells cs t r) → t ≠ TL → k ≠ B → W'.heap[k]? = some (.cells cs t r)
theorem KeepT.refl (B : Nat) (W : World) : KeepT B W W := fun _ _ _ _ h _ _ => h
theorem KeepT.trans {B : Nat} {X Y Z : World} (h : KeepT B X Y) (k : KeepT B Y Z) : KeepT B X Z := fun i cs t r hi ht hB => k i cs t r (h i cs t r hi ht hB) ht hB
theorem KeepT.putObj {B : Nat} {W : World} {l : Nat} {o : Obj} (o' : Obj) (hl : W.heap[l]? = some o) (ho : o.isCells = false) : KeepT B W (W.putObj l o') := fun k cs t r hk _ _ => by
  refine (World.putObj_heap_other (fun e => ?_)).trans hk
  subst e
  rw [hl] at hk; cases hk; cases ho
theorem KeepT.drewN (B : Nat) (W : World) (q : Nat) : KeepT B W (W.drewN q) := fun _ _ _ _ h _ _ => h
theorem KeepT.boxed {B k : Nat} {W W' : World} {t : TypeId} {v : Value} (h : KeepT B W W') (hb : Boxed W k t v) (ht : t ≠ TL) (hk : k ≠ B) : Boxed W' k t v := h k _ t _ hb ht hk

theorem keepsFrom_mono {B B' : Nat} {W W' : World} (h : KeepsFrom B W W') (hb : B ≤ B') : KeepsFrom B' W W' := ⟨h.size, fun k o hk => h.same k o (by omega)⟩
/-- What a round of the caller's body keeps. -/
def KeepR (n₀ B N : Nat) (W W' : World) : Prop := Below n₀ W W' ∧ KeepT B W W' ∧ KeepsFrom N W W'

theorem roundIn_any {m m' : Nat} {l : Nat} {P : Program} {f : FuncId} {tmps : Array Value} {assign body : Code} {w : World} {R : Ending → World → Prop} (h : RoundIn Fence.wide m P l f tmps assign body w R) : RoundIn Fence.wide m' P l f tmps assign body w R :=
  ⟨h.1, fun c cs _ => h.2 c cs (fun _ hd => by cases hd)⟩
theorem roundIn_inRound {m l' : Nat} {l : Nat} {P : Program} {f : FuncId} {tmps : Array Value} {assign body : Code} {w : World} {R : Ending → World → Prop} (h : RoundIn Fence.wide m P l f tmps assign body w R) : RoundIn (Fence.wide.inRound l') m P l f tmps assign body w R := h

/-- A value that gives the letters xs to every loop that never leaves its body. -/
def SeqO (n₀ : Nat) (w : World) (gf : Nat) (lb : Array Value) (xs : List UInt8) : Prop :=
  ∀ n, 12 ≤ n → ∀ (l B : Nat) (J : List UInt8 → World → Prop) (W : World), Below w.heap.size w W → n₀ ≤ B → B < W.heap.size → OwnFrom W.heap.size J →
    (∀ pre x W1, J pre W1 → pre ++ [x] <+: xs → YieldAt Fence.wide (n - 1) Try.prog l (encB x) W1 fun e W' => e = .returned (.bool true) ∧ J (pre ++ [x]) W' ∧ KeepR n₀ B W.heap.size W1 W') →
    J [] W →
    CallsIn Fence.wide n Try.prog gf (#[.func (.yield l) #[] #[]] ++ lb) W fun e W' => (∃ v, e = .returned v) ∧ J xs W'

theorem SeqO.later {n₀ n₁ : Nat} {w w' : World} {gf : Nat} {lb : Array Value} {xs : List UInt8} (h : SeqO n₀ w gf lb xs) (hb : Below w.heap.size w w') (hn : n₀ ≤ n₁) : SeqO n₁ w' gf lb xs :=
  fun n h8 l B J W hW hnB hB hJ hY h0 => h n h8 l B J W (hb.trans (hW.mono hb.size)) (Nat.le_trans hn hnB) hB hJ
    (fun pre x W1 hj hl => (hY pre x W1 hj hl).mono (fun _ _ ⟨a, b, c⟩ => ⟨a, b, c.1.mono hn, c.2⟩)) h0

theorem prefix_len {α : Type} {pre xs : List α} {x : α} (h : pre ++ [x] <+: xs) : pre.length < xs.length := by
  have := h.length_le; simp at this; omega
theorem prefix_mem {α : Type} {pre xs : List α} {x : α} (h : pre ++ [x] <+: xs) : x ∈ xs := h.subset (by simp)

/-- How a round's body ends: it goes on. -/
def goesOn {α : Type} (B : Nat) (Kp : Nat → World → World → Prop) (I : List α → World → Prop) (xs : List α) (W : World) : Exit → Act → World → Prop
  | .normal, _, W' => KeepsFrom B W W' ∧ Kp B W W' ∧ I xs W'
  | _, _, _ => False

/-- **The loop's law.** -/
theorem range_law {α : Type} {n : Nat} {g : Operand} {ps : Array Tmp} {assign body : Code} {Q : Exit → Act → World → Prop} {a : Act} {w : World} {gf : Nat} {lb : Array Value} (hn : 10 ≤ n)
    (hg : a.eval g = .func (.func gf) #[] lb) (eg : ∀ args w, (callFunc gf args).run Try.prog w = .ok (.enter gf args) w)
    {encs : α → Array Value} (hps : ∀ x, (encs x).size = ps.size) (Kp : Nat → World → World → Prop) (hKt : ∀ {N X Y Z}, Kp N X Y → Kp N Y Z → Kp N X Z)
    (hKp : ∀ N W l o o', l < N → w.heap.size ≤ l → W.heap[l]? = some o → o.isCells = false → o.isWalk = false → Kp N W (W.putObj l o')) (hKm : ∀ {X Y}, Kp w.heap.size X Y → Kp (w.heap.size + 2) X Y)
    {xs : List α}
    (hseq : ∀ (l : Nat) (J : List α → World → Prop) (V : World), Below w.heap.size w V → w.heap.size < V.heap.size → OwnFrom V.heap.size J →
      (∀ pre x W1, J pre W1 → pre ++ [x] <+: xs → YieldAt Fence.wide (n - 1 - 1) Try.prog l (encs x) W1 fun e W' => e = .returned (.bool true) ∧ J (pre ++ [x]) W' ∧ Kp V.heap.size W1 W') → J [] V →
      CallsIn Fence.wide (n - 1) Try.prog gf (#[.func (.yield l) #[] #[]] ++ lb) V fun e W' => (∃ v, e = .returned v) ∧ J xs W')
    (I : List α → World → Prop) (hI : OwnFrom w.heap.size I) (h0 : I [] w) (a₁ : α → Act)
    (hassign : ∀ (l : Nat) (x : α) (W : World) (K : Act → World → Prop), K (a₁ x) W →
      assign.wpIn (Fence.wide.inRound l) (n - 1 - 1) Try.prog (Exit.then K (fun _ _ _ => False)) { tmps := (ps.zip (encs x)).foldl (fun t (q, v) => t.setIfInBounds q v) a.tmps, defers := [] } W)
    (hbody : ∀ (l : Nat) (pre : List α) (x : α) (W : World), I pre W → pre ++ [x] <+: xs →
      body.wpIn (Fence.wide.inRound l) (n - 1 - 1) Try.prog (goesOn w.heap.size Kp I (pre ++ [x]) W) (a₁ x) W)
    (hdone : ∀ (D : Nat) (W : World), w.heap.size ≤ D → I xs W → W.heap[D]? = some (.deferred (some [])) → Q .normal { a with defers := { target := .collected D, args := #[] } :: a.defers } W) :
    (Code.rangeFunc g ps assign body).wpIn Fence.wide n Try.prog Q a w := by
  refine wpIn_rangeFunc fun fn hfn => ?_
  have lp : ∃ lp : LoopState → Loop, lp = fun st => { state := st, pending := none, fn, tmps := a.tmps, params := ps, assign, body, defers := w.heap.size } := ⟨_, rfl⟩
  obtain ⟨lp, hlp⟩ := lp
  have e1 := run_enterLoop_outer (P := Try.prog) (w := w) fn a.tmps ps assign body
  rw [show ({ state := .ready, pending := none, fn, tmps := a.tmps, params := ps, assign, body, defers := w.heap.size } : Loop) = lp .ready by rw [hlp]] at e1
  have kD : ((w.alloc (.deferred (some []))).alloc (.loop (lp .ready))).heap[w.heap.size]? = some (.deferred (some [])) := (Below.heap_alloc _ _ _ (by simp)).trans (World.alloc_heap_new w _)
  have kL : ((w.alloc (.deferred (some []))).alloc (.loop (lp .ready))).heap[w.heap.size + 1]? = some (.loop (lp .ready)) := by
    have := World.alloc_heap_new (w.alloc (.deferred (some []))) (.loop (lp .ready)); rwa [World.size_alloc] at this
  have i0 := hI.alloc (Obj.loop (lp .ready)) (hI.alloc (Obj.deferred (some [])) h0)
  have hs : ((w.alloc (.deferred (some []))).alloc (.loop (lp .ready))).heap.size = w.heap.size + 2 := by simp
  have hb : Below w.heap.size w ((w.alloc (.deferred (some []))).alloc (.loop (lp .ready))) := ((Below.refl _ w).alloc (Nat.le_refl _) _).alloc (by simp) _
  generalize ((w.alloc (.deferred (some []))).alloc (.loop (lp .ready))) = V at e1 kD kL i0 hs hb
  refine ⟨w.heap.size + 1, _, V, { target := .fn (.func gf) lb, args := #[.func (.yield (w.heap.size + 1)) #[] #[]] }, V, gf, #[.func (.yield (w.heap.size + 1)) #[] #[]] ++ lb, V, e1, ?_, fun f' hf' => ?_, ?_, fun _ => by omega, ?_⟩
  · simp only [resolve, hg]
    simp [go_sem]
  · trivial
  · simp [invoke, go_sem, eg]
  · refine (hseq (w.heap.size + 1) (fun pre W => I pre W ∧ W.heap[w.heap.size]? = some (.deferred (some [])) ∧ W.heap[w.heap.size + 1]? = some (.loop (lp .ready))) V hb (by omega) ?_ ?_ ⟨i0, kD, kL⟩).mono ?_
    · rintro s X Y row ⟨h1, h2, h3⟩ hgr hr
      have far : ∀ k, k < V.heap.size → k < X.heap.size → Y.heap[k]? = X.heap[k]? := fun k hk hX => hgr.block k hX (fun e => by have := (hr k e.symm).1; omega)
      exact ⟨hI s X Y row h1 hgr (fun r e => by obtain ⟨q1, q2⟩ := hr r e; exact ⟨by omega, q2⟩), (far _ (by omega) (Array.getElem?_eq_some_iff.1 h2).1).trans h2, (far _ (by omega) (Array.getElem?_eq_some_iff.1 h3).1).trans h3⟩
    · rintro pre x W ⟨h1, h2, h3⟩ hpre
      have hlt : w.heap.size + 1 < W.heap.size := (Array.getElem?_eq_some_iff.1 h3).1
      have hy := run_yield (P := Try.prog) (args := encs x) h3 (by rw [hlp]; exact hps x)
      rw [hlp] at hy
      refine ⟨fn, _, assign, body, hy, roundIn_of_wpIn hfn (hassign _ x W _ ⟨_, run_beginRound h3 (by rw [hlp]), ?_⟩)⟩
      have b3 : (W.putObj (w.heap.size + 1) (.loop { lp .ready with state := .busy })).heap[w.heap.size + 1]? = some (.loop { lp .ready with state := .busy }) := World.putObj_heap_same hlt
      have b2 : (W.putObj (w.heap.size + 1) (.loop { lp .ready with state := .busy })).heap[w.heap.size]? = some (.deferred (some [])) := (World.putObj_heap_other (by omega)).trans h2
      have b1 := hI.putObj (.loop { lp .ready with state := .busy }) h1 (by omega) h3 rfl
      have bk : Kp (w.heap.size + 2) W (W.putObj (w.heap.size + 1) (.loop { lp .ready with state := .busy })) := hKp _ W _ _ _ (by omega) (by omega) h3 rfl rfl
      generalize (W.putObj (w.heap.size + 1) (.loop { lp .ready with state := .busy })) = X at b1 b2 b3 bk
      refine wpIn_mono (hbody _ pre x X b1 hpre) ?_
      intro e a3 Y hgo
      cases e with
      | normal => ?_
      | _ => exact hgo.elim
      obtain ⟨k3, kp, hi⟩ := hgo
      have c3 := k3.same _ _ (by omega) b3 rfl
      have c2 := k3.same _ _ (Nat.le_refl _) b2 rfl
      have he := run_endRound (P := Try.prog) none c3
      refine ⟨_, _, he, rfl, ⟨hI.putObj _ hi (by omega) c3 rfl, (World.putObj_heap_other (by omega)).trans c2, ?_⟩, ?_⟩
      · rw [hlp]
        rw [hlp] at c3
        exact World.putObj_heap_same (Array.getElem?_eq_some_iff.1 c3).1
      · rw [hs]
        exact hKt (hKt bk (hKm kp)) (hKp _ Y _ _ _ (by omega) (by omega) c3 rfl rfl)
    · rintro e W ⟨⟨v, rfl⟩, h1, h2, h3⟩
      have he := run_endLoop (P := Try.prog) h3 (by rw [hlp]; simp)
      rw [show (lp .ready).pending = none by rw [hlp]] at he
      exact ⟨none, _, he, hdone _ _ (Nat.le_refl _) (hI.putObj _ h1 (by omega) h3 rfl) ((World.putObj_heap_other (by omega)).trans h2)⟩

/-- The law at an iterator over letters. -/
theorem range_letters {n : Nat} {g : Operand} {p : Tmp} {assign body : Code} {Q : Exit → Act → World → Prop} {a : Act} {w : World} {gf : Nat} {lb : Array Value} (hn : 14 ≤ n)
    (hg : a.eval g = .func (.func gf) #[] lb) (eg : ∀ args w, (callFunc gf args).run Try.prog w = .ok (.enter gf args) w)
    {n₀ B : Nat} {xs : List UInt8} (hseq : SeqO n₀ w gf lb xs) (hn₀ : n₀ ≤ w.heap.size) (hnB : n₀ ≤ B) (hB : B < w.heap.size)
    (I : List UInt8 → World → Prop) (hI : OwnFrom w.heap.size I) (h0 : I [] w) (a₁ : UInt8 → Act)
    (hassign : ∀ (l : Nat) (x : UInt8) (W : World) (K : Act → World → Prop), K (a₁ x) W →
      assign.wpIn (Fence.wide.inRound l) (n - 1 - 1) Try.prog (Exit.then K (fun _ _ _ => False)) { tmps := (#[p].zip (encB x)).foldl (fun t (q, v) => t.setIfInBounds q v) a.tmps, defers := [] } W)
    (hbody : ∀ (l : Nat) (pre : List UInt8) (x : UInt8) (W : World), I pre W → pre ++ [x] <+: xs →
      body.wpIn (Fence.wide.inRound l) (n - 1 - 1) Try.prog (goesOn w.heap.size (KeepR n₀ B) I (pre ++ [x]) W) (a₁ x) W)
    (hdone : ∀ (D : Nat) (W : World), w.heap.size ≤ D → I xs W → W.heap[D]? = some (.deferred (some [])) → Q .normal { a with defers := { target := .collected D, args := #[] } :: a.defers } W) :
    (Code.rangeFunc g #[p] assign body).wpIn Fence.wide n Try.prog Q a w :=
  range_law (by omega) hg eg (fun _ => rfl) (KeepR n₀ B) (fun h k => ⟨h.1.trans k.1, h.2.1.trans k.2.1, h.2.2.trans k.2.2⟩)
    (fun N W l o o' hl hwl hW ho hwk => ⟨belowK_b hn₀ W l o o' hwl hW ho hwk, KeepT.putObj _ hW ho, KeepsFrom.of_grownBy (grownBy_putObj' W l o') (fun j e => by cases e; exact hl)⟩)
    (fun h => ⟨h.1, h.2.1, keepsFrom_mono h.2.2 (by omega)⟩)
    (fun l J V hV hlt hJ hY h0 => hseq (n - 1) (by omega) l B J V hV hnB (by omega) hJ hY h0) I hI h0 a₁ hassign hbody hdone

end Go.Proofs.Ytaaeiogdhmiaaaa

/- What the laws' proofs stand on, part 3 of 3. -/
import Derived.Shelf.SlSortCmp.WholeK
import Derived.Shelf.SlSortCmp.NoneTotal
import Derived.Laws.EntriesVeiled
import Derived.Deep.AppendLies
import Derived.Deep.RegionLaw
import Derived.Deep.RegionWith
import Derived.Lib.SliceRun
import Derived.Shelf.SlMaps.Clone
import Derived.Laws.CopyOwn
import Derived.Laws.AppendOwnNone
import Derived.Test.YtfhlceggihodeaaGreatBa
import Derived.Test.YtfhlceggihodeaaGreatBb

/- A law for a region that draws its order, inside a fence, by what stands when some of its operations have come up: each operation is met once, in whatever order they come. -/

namespace Go.Proofs.YtfhlceggihodeaaGreat
open Go.RowKit Go.Shelf

theorem count_set (l : List Bool) : ∀ i, l[i]? = some false → (l.set i true).count false + 1 = l.count false := by
  induction l with
  | nil => intro i h; simp at h
  | cons b r ih =>
    intro i h
    cases i with
    | zero => simp at h; subst h; simp
    | succ i =>
      simp only [List.getElem?_cons_succ] at h
      have := ih i h
      simp only [List.set_cons_succ, List.count_cons]
      omega
theorem listed_false {l : Array Bool} {i : Nat} (h : l.getD i true = false) : l.toList[i]? = some false := by
  rw [Array.getD_eq_getD_getElem?] at h
  rw [Array.getElem?_toList]
  cases e : l[i]? with
  | none => rw [e] at h; cases h
  | some b => rw [e] at h; simp at h; rw [h]

theorem wpAnyIn_inv {F : Fence} {n : Nat} {P : Program} {md : Region.Mode} {ops : Array Oper} {Q : Exit → Act → World → Prop} (Inv : Array Bool → Act → World → Prop)
    (hstep : ∀ listed a w i, Inv listed a w → listed.getD i true = false → (∀ o, ops[i]? = some o → ∀ e ∈ o.after, Region.binds md e = true → listed.getD e.on false = true) → i < ops.size →
      wpOpIn F n P ops Q i (fun a' w' => Inv (listed.setIfInBounds i true) a' w') a w)
    (hdone : ∀ listed a w, Inv listed a w → (∀ i o, ops[i]? = some o → (∀ e ∈ o.after, Region.binds md e = true → listed.getD e.on false = true) → listed.getD i true = true) → Q .normal a w) :
    ∀ (fuel : Nat) (listed : Array Bool) (a : Act) (w : World), listed.toList.count false ≤ fuel → Inv listed a w → wpAnyIn F n P md ops Q fuel listed a w := by
  have hd : ∀ listed a w, Inv listed a w → Region.ready md ops listed = [] → Q .normal a w := fun listed a w hI hr => hdone listed a w hI fun i o ho hall => by
    cases h : listed.getD i true with
    | true => rfl
    | false =>
      have : i ∈ Region.ready md ops listed := mem_ready.2 ⟨h, o, ho, hall⟩
      rw [hr] at this; cases this
  intro fuel
  induction fuel with
  | zero =>
    intro listed a w hc hI
    have hr : Region.ready md ops listed = [] := by
      rw [List.eq_nil_iff_forall_not_mem]
      intro j hj
      have h1 := listed_false (mem_ready.1 hj).1
      have := count_set _ _ h1
      omega
    exact ⟨hr, hd _ _ _ hI hr⟩
  | succ fuel ih =>
    intro listed a w hc hI
    refine ⟨fun h => hd _ _ _ hI h, fun i hi => ?_⟩
    obtain ⟨h1, o, ho, hall⟩ := mem_ready.1 hi
    refine wpOpIn_mono (fun a' w' h => ih _ a' w' ?_ h) (hstep listed a w i hI h1 (fun o' ho' => by rw [ho] at ho'; cases ho'; exact hall) (Array.getElem?_eq_some_iff.1 ho).1)
    have := count_set _ _ (listed_false h1)
    rw [Array.toList_setIfInBounds]
    omega

end Go.Proofs.YtfhlceggihodeaaGreat

/- The contract of the program's 'WordPut'. -/

namespace Go.Proofs.YtfhlceggihodeaaGreat
open Go.RowKit Go.Shelf

attribute [local go_sem] Oper.semAt_some

abbrev FV : Nat := 84

/-- What a round keeps, where the iterator is that of a word. -/
def KeepP (n₀ N : Nat) (W W' : World) : Prop := Below n₀ W W' ∧ KeepsFrom N W W'

/-- The loop's law at the letters of a word, for bodies that write where they will behind what was there. -/
theorem range_values {n : Nat} {g : Operand} {p : Tmp} {assign body : Code} {Q : Exit → Act → World → Prop} {a : Act} {w : World} {Bs : Nat} (hn : 14 ≤ n)
    (hg : a.eval g = .func (.func FV) #[] #[.pointer (some ⟨Bs, 0, none⟩)])
    {n₀ : Nat} {L : List UInt8} {sv : Value} (hBs : Bs < w.heap.size) (hc : w.cell? ⟨Bs, 0, none⟩ = some sv) (hw : IsWord n₀ w sv L) (hn₀ : n₀ ≤ w.heap.size)
    (I : List UInt8 → World → Prop) (hI : OwnFrom w.heap.size I) (h0 : I [] w) (a₁ : UInt8 → Act)
    (hassign : ∀ (l : Nat) (x : UInt8) (W : World) (K : Act → World → Prop), K (a₁ x) W →
      assign.wpIn (Fence.wide.inRound l) (n - 1 - 1) Tryz.prog (Exit.then K (fun _ _ _ => False)) { tmps := (#[p].zip (encB x)).foldl (fun t (q, v) => t.setIfInBounds q v) a.tmps, defers := [] } W)
    (hbody : ∀ (l : Nat) (pre : List UInt8) (x : UInt8) (W : World), I pre W → pre ++ [x] <+: L →
      body.wpIn (Fence.wide.inRound l) (n - 1 - 1) Tryz.prog (goesOn w.heap.size (KeepP n₀) I (pre ++ [x]) W) (a₁ x) W)
    (hdone : ∀ (D : Nat) (W : World), w.heap.size ≤ D → I L W → W.heap[D]? = some (.deferred (some [])) → Q .normal { a with defers := { target := .collected D, args := #[] } :: a.defers } W) :
    (Code.rangeFunc g #[p] assign body).wpIn Fence.wide n Tryz.prog Q a w :=
  range_law (by omega) hg (enters_of Tryz.func84 (by kernel_rfl) rfl) (fun _ => rfl) (KeepP n₀) (fun h k => ⟨h.1.trans k.1, h.2.trans k.2⟩)
    (fun N W l o o' hl hwl hW ho hwk => ⟨belowK_b hn₀ W l o o' hwl hW ho hwk, KeepsFrom.of_grownBy (grownBy_putObj' W l o') (fun j e => by cases e; exact hl)⟩)
    (fun h => ⟨h.1, keepsFrom_mono h.2 (by omega)⟩)
    (fun l J V hV hlt hJ hY h0 => (values1_in (n - 1) (by omega) l Bs n₀ L sv J (fun _ _ => False) (fun pre x W1 hj hl => (hY pre x W1 hj hl).mono (fun _ _ ⟨a, b, c⟩ => .inl ⟨a, b, c.1⟩)) V
      ((hV.cell (p := ⟨Bs, 0, none⟩) hBs).trans hc) (hw.below (hV.mono hn₀)) h0).mono (by
        rintro e W' ⟨hv, ⟨ys, rfl, hJ'⟩ | ⟨_, _, hf⟩⟩
        · exact ⟨hv, hJ'⟩
        · exact hf.elim)) I hI h0 a₁ hassign hbody hdone

/-- A part's box, and what it gives. -/
def PartAt (N : Nat) (w W : World) (p : Part) : Prop :=
  ∃ B sv L, p.lb = #[.pointer (some ⟨B, 0, none⟩)] ∧ N ≤ B ∧ Boxed W B WT sv ∧ Gives ⟨p.gf, sv, L, p.xs⟩ ∧ IsWord N w sv L
theorem PartAt.own (N : Nat) (w : World) (p : Part) : Own (fun (_ : Unit) W => PartAt N w W p) := by
  rintro s X Y row ⟨B, sv, L, h1, h2, h3, h4⟩ hg hrow
  exact ⟨B, sv, L, h1, h2, boxed_own B WT (fun _ : Unit => sv) () X Y row h3 hg hrow, h4⟩

def funcV (p : Part) : Value := .func (.func p.gf) #[] p.lb
/-- The parts that the loop has gathered. -/
def Gathered (N BP : Nat) (w : World) (img : UInt8 → List UInt8) (pre : List UInt8) (W : World) : Prop :=
  ∃ ps : List Part, ps.length = pre.length ∧ cat ps = (pre.map img).flatten ∧ (∃ v, Boxed W BP 108 v ∧ W.ownsRow N IT 1 v ps.length (ps.map funcV) ∧ True) ∧ ∀ p ∈ ps, PartAt N w W p
theorem Gathered.own (N BP : Nat) (w : World) (img : UInt8 → List UInt8) : Own (Gathered N BP w img) := by
  rintro s X Y row ⟨ps, h1, h2, h3, h4⟩ hg hrow
  exact ⟨ps, h1, h2, holdsRow_own N BP _ IT 1 (fun _ : Unit => ps.length) (fun _ => ps.map funcV) (fun _ _ => True) () X Y row h3 hg hrow, fun p hp => PartAt.own N w p () X Y row (h4 p hp) hg hrow⟩

/-- The letters of a letter's image, as its iterator gives them. -/
def imgX (zs : List ByteArray) (x : UInt8) : List UInt8 := if 97 ≤ x.toNat then (zs.getD (idxB x) ByteArray.empty).data.toList else (zs.getD (idxB x) ByteArray.empty).data.toList.reverse.map invB
/-- All images, one behind the other. -/
def putX (zs : List ByteArray) (L : List UInt8) : List UInt8 := (L.map (imgX zs)).flatten
theorem imgX_len (zs : List ByteArray) (hz : ∀ z ∈ zs, wordB z.data.toList = true) (x : UInt8) : (imgX zs x).length ≤ 60 := by
  have hz' : (zs.getD (idxB x) ByteArray.empty).data.toList.length ≤ 60 := by
    rw [List.getD_eq_getElem?_getD]
    cases h : zs[idxB x]? with
    | none => simp
    | some z => exact ((wordB_iff _).1 (hz z (List.mem_of_getElem? h))).1
  unfold imgX
  split
  · exact hz'
  · rw [List.length_map, List.length_reverse]; exact hz'
theorem putX_len (zs : List ByteArray) (L : List UInt8) (hz : ∀ z ∈ zs, wordB z.data.toList = true) : (putX zs L).length ≤ L.length * 60 := by
  unfold putX
  induction L with
  | nil => simp
  | cons x r ih =>
    rw [List.map_cons, List.flatten_cons, List.length_append, List.length_cons]
    have := imgX_len zs hz x
    omega
theorem imgX_eq (zs : List ByteArray) (hz : ∀ z ∈ zs, wordB z.data.toList = true) (x : UInt8) : imgX zs x = imgL zs x ∧ letL (imgL zs x) = true := by
  have hl : letL (zs.getD (idxB x) ByteArray.empty).data.toList = true := by
    rw [List.getD_eq_getElem?_getD]
    cases h : zs[idxB x]? with
    | none => rfl
    | some z => exact ((wordB_iff _).1 (hz z (List.mem_of_getElem? h))).2.1
  unfold imgX imgL
  by_cases h : 97 ≤ x.toNat
  · rw [if_pos h, if_neg (by omega)]; exact ⟨rfl, hl⟩
  · rw [if_neg h, if_pos (by omega)]; exact ⟨inv_back _ hl, letL_back _ hl⟩
theorem putX_eq (zs : List ByteArray) (L : List UInt8) (hz : ∀ z ∈ zs, wordB z.data.toList = true) : putX zs L = putL zs L ∧ letL (putL zs L) = true := by
  unfold putX putL
  induction L with
  | nil => exact ⟨rfl, rfl⟩
  | cons x r ih =>
    obtain ⟨h1, h2⟩ := imgX_eq zs hz x
    rw [List.map_cons, List.map_cons, List.flatten_cons, List.flatten_cons, h1, ih.1, letL_append, h2, ih.2]
    exact ⟨rfl, rfl⟩
theorem letL_putX (zs : List ByteArray) (L : List UInt8) (hz : ∀ z ∈ zs, wordB z.data.toList = true) : letL (putX zs L) = true := by
  rw [(putX_eq zs L hz).1]; exact (putX_eq zs L hz).2
abbrev LT : TypeId := 108

theorem infoSeq : (Tryz.prog.info? IT).map (fun i => (i.zero, i.size, i.bytes)) = some (some .nilFunc, 1, 8) := by kernel_rfl

/-- An append in whatever place of a region. -/
theorem wpIn_append_op {F : Fence} {n : Nat} {P : Program} (w : World) {o : Oper} {a : Act} {K : Act → World → Prop} {Q : Exit → Act → World → Prop}
    (s x : Operand) (t : TypeId) (hop : o.op = Op.call { callee := Callee.builtin Builtin.append, args := #[s, x], argTypes := #[t, t] })
    (base : Nat) (e : TypeId) (i : TypeInfo) (z : Value) (size bytes : Nat) (h1 : P.underlying t = some (.slice e)) (h2 : P.info? e = some i) (h3 : i.zero = some z) (h4 : i.size = size) (h5 : i.bytes = bytes) (h6 : z.cells.size = size) (h7 : 0 < size)
    (v : Value) (k : Nat) (xs : List Value) (hs : a.eval s = v) (hown : w.ownsRow base e size v k xs) (ad : Addr) (m c : Nat) (news : List Value) (hx : a.eval x = .slice (some ad) m c) (hn : news.length = m * size)
    (hc : ∀ j u, news[j]? = some u → w.cell? (ad.add j) = some u) (h1c : ∀ u ∈ news, u.oneCell' = true) (b1 : k + m ≤ maxLen) (b2 : (k + m) * bytes ≤ 140737488355328) (b3 : base ≤ w.heap.size)
    (hK : ∀ v' w', w'.ownsRow base e size v' (k + m) (xs ++ news) → w.grownBy w' v.ownBlock → True → K (a.put o.dst v') w') : o.wpIn F n P a w K Q := by
  obtain ⟨v', w', hrun, r1, r2, _⟩ := run_append_own (P := P) w base t o.type e i z size bytes h1 h2 h3 h4 h5 h6 h7 v k xs hown ad m c news hn hc h1c b1 b2 b3
  unfold Oper.wpIn
  refine ⟨by simp [Oper.about, hop, resolve, Target.leads, Sem.run_pure], ?_⟩
  rw [Oper.semAt_plain F _ _ (by rw [hop]; intro c hc'; cases hc')]
  simp [execOp, hop, resolve, invoke, builtin, hs, hx, hrun, Result.andThen]
  exact hK v' w' r1 r2 trivial

theorem owns_slice {W : World} {base : Nat} {e : TypeId} {v : Value} {n : Nat} {xs : List Value} (h : W.ownsRow base e 1 v n xs) (h0 : 0 < W.heap.size) :
    ∃ a cap b, v = .slice a n cap ∧ (0 < n → a = some ⟨b, 0, none⟩) ∧ b < W.heap.size ∧ ∀ i (h : i < xs.length), W.cell? ⟨b, i, none⟩ = some xs[i] := by
  have hl := h.1
  rw [Nat.mul_one] at hl
  have hc := fun g cap (e : v = .slice (some ⟨g, 0, none⟩) n cap) => e
  rcases h.2 with ⟨rfl, e⟩ | ⟨g, cap, cur, rfl, e2⟩
  · have e0 : n = 0 := e
    subst e0
    exact ⟨none, 0, 0, rfl, fun h => absurd h (Nat.lt_irrefl _), h0, fun i hi => absurd hi (by omega)⟩
  · refine ⟨_, cap, g, rfl, fun _ => rfl, (ownsRow_cap h).2.2.2, fun i hi => ?_⟩
    rw [h.cellAt i (by omega)]
    exact List.getElem?_eq_getElem hi

/-- Four words in memory. -/
def FourAt (gi : Nat) (lo : Nat) (w : World) (zs : List ByteArray) : Prop :=
  gi < w.heap.size ∧ ∀ j (h : j < zs.length), ∃ v, w.cell? ⟨gi, j, none⟩ = some v ∧ WordAt lo w v zs[j].data.toList
theorem FourAt.below {gi lo : Nat} {w w' : World} {zs : List ByteArray} (h : FourAt gi lo w zs) (hb : Below w.heap.size w w') : FourAt gi lo w' zs :=
  ⟨Nat.lt_of_lt_of_le h.1 hb.size, fun j hj => by
    obtain ⟨v, h1, h2⟩ := h.2 j hj
    exact ⟨v, (hb.cell (p := ⟨gi, j, none⟩) h.1).trans h1, h2.below hb⟩⟩

end Go.Proofs.YtfhlceggihodeaaGreat

/- The law of a loop over an iterator whose variable is boxed in each round. -/

namespace Go.Proofs.YtfhlceggihodeaaGreat
open Go.RowKit Go.Shelf

/-- **The loop's law**, where each round's variable is boxed. -/
theorem range_law2 {α : Type} {n : Nat} {g : Operand} {ps : Array Tmp} {assign body : Code} {Q : Exit → Act → World → Prop} {a : Act} {w : World} {gf : Nat} {lb : Array Value} (hn : 10 ≤ n)
    (hg : a.eval g = .func (.func gf) #[] lb) (eg : ∀ args w, (callFunc gf args).run Tryz.prog w = .ok (.enter gf args) w)
    {encs : α → Array Value} (hps : ∀ x, (encs x).size = ps.size) (Kp : Nat → World → World → Prop) (hKt : ∀ {N X Y Z}, Kp N X Y → Kp N Y Z → Kp N X Z)
    (hKp : ∀ N W l o o', l < N → w.heap.size ≤ l → W.heap[l]? = some o → o.isCells = false → o.isWalk = false → Kp N W (W.putObj l o')) (hKm : ∀ {X Y}, Kp w.heap.size X Y → Kp (w.heap.size + 2) X Y)
    (ob : α → Obj) (hKa : ∀ N W o, w.heap.size ≤ W.heap.size → Kp N W (W.alloc o))
    {xs : List α}
    (hseq : ∀ (l : Nat) (J : List α → World → Prop) (V : World), Below w.heap.size w V → w.heap.size < V.heap.size → OwnFrom V.heap.size J →
      (∀ pre x W1, J pre W1 → pre ++ [x] <+: xs → YieldAt Fence.wide (n - 1 - 1) Tryz.prog l (encs x) W1 fun e W' => e = .returned (.bool true) ∧ J (pre ++ [x]) W' ∧ Kp V.heap.size W1 W') → J [] V →
      CallsIn Fence.wide (n - 1) Tryz.prog gf (#[.func (.yield l) #[] #[]] ++ lb) V fun e W' => (∃ v, e = .returned v) ∧ J xs W')
    (I : List α → World → Prop) (hI : OwnFrom w.heap.size I) (h0 : I [] w) (a₁ : α → Nat → Act)
    (hassign : ∀ (l : Nat) (x : α) (W : World) (K : Act → World → Prop), K (a₁ x W.heap.size) (W.alloc (ob x)) →
      assign.wpIn (Fence.wide.inRound l) (n - 1 - 1) Tryz.prog (Exit.then K (fun _ _ _ => False)) { tmps := (ps.zip (encs x)).foldl (fun t (q, v) => t.setIfInBounds q v) a.tmps, defers := [] } W)
    (hbody : ∀ (l : Nat) (pre : List α) (x : α) (b : Nat) (W : World), I pre W → pre ++ [x] <+: xs → W.heap.size = b + 1 → W.heap[b]? = some (ob x) → w.heap.size + 2 ≤ b →
      body.wpIn (Fence.wide.inRound l) (n - 1 - 1) Tryz.prog (goesOn w.heap.size Kp I (pre ++ [x]) W) (a₁ x b) W)
    (hdone : ∀ (D : Nat) (W : World), w.heap.size ≤ D → I xs W → W.heap[D]? = some (.deferred (some [])) → Q .normal { a with defers := { target := .collected D, args := #[] } :: a.defers } W) :
    (Code.rangeFunc g ps assign body).wpIn Fence.wide n Tryz.prog Q a w := by
  refine wpIn_rangeFunc fun fn hfn => ?_
  have lp : ∃ lp : LoopState → Loop, lp = fun st => { state := st, pending := none, fn, tmps := a.tmps, params := ps, assign, body, defers := w.heap.size } := ⟨_, rfl⟩
  obtain ⟨lp, hlp⟩ := lp
  have e1 := run_enterLoop_outer (P := Tryz.prog) (w := w) fn a.tmps ps assign body
  rw [show ({ state := .ready, pending := none, fn, tmps := a.tmps, params := ps, assign, body, defers := w.heap.size } : Loop) = lp .ready by rw [hlp]] at e1
  have kD : ((w.alloc (.deferred (some []))).alloc (.loop (lp .ready))).heap[w.heap.size]? = some (.deferred (some [])) := (Below.heap_alloc _ _ _ (by simp)).trans (World.alloc_heap_new w _)
  have kL : ((w.alloc (.deferred (some []))).alloc (.loop (lp .ready))).heap[w.heap.size + 1]? = some (.loop (lp .ready)) := by
    have := World.alloc_heap_new (w.alloc (.deferred (some []))) (.loop (lp .ready)); rwa [World.size_alloc] at this
  have i0 := hI.alloc (Obj.loop (lp .ready)) (hI.alloc (Obj.deferred (some [])) h0)
  have hs : ((w.alloc (.deferred (some []))).alloc (.loop (lp .ready))).heap.size = w.heap.size + 2 := by simp
  have hb : Below w.heap.size w ((w.alloc (.deferred (some []))).alloc (.loop (lp .ready))) := ((Below.refl _ w).alloc (Nat.le_refl _) _).alloc (by simp) _
  generalize ((w.alloc (.deferred (some []))).alloc (.loop (lp .ready))) = V at e1 kD kL i0 hs hb
  refine ⟨w.heap.size + 1, _, V, { target := .fn (.func gf) lb, args := #[.func (.yield (w.heap.size + 1)) #[] #[]] }, V, gf, #[.func (.yield (w.heap.size + 1)) #[] #[]] ++ lb, V, e1, ?_, fun f' hf' => ?_, ?_, fun _ => by omega, ?_⟩
  · simp only [resolve, hg]
    simp [go_sem]
  · trivial
  · simp [invoke, go_sem, eg]
  · refine (hseq (w.heap.size + 1) (fun pre W => I pre W ∧ W.heap[w.heap.size]? = some (.deferred (some [])) ∧ W.heap[w.heap.size + 1]? = some (.loop (lp .ready))) V hb (by omega) ?_ ?_ ⟨i0, kD, kL⟩).mono ?_
    · rintro s X Y row ⟨h1, h2, h3⟩ hgr hr
      have far : ∀ k, k < V.heap.size → k < X.heap.size → Y.heap[k]? = X.heap[k]? := fun k hk hX => hgr.block k hX (fun e => by have := (hr k e.symm).1; omega)
      exact ⟨hI s X Y row h1 hgr (fun r e => by obtain ⟨q1, q2⟩ := hr r e; exact ⟨by omega, q2⟩), (far _ (by omega) (Array.getElem?_eq_some_iff.1 h2).1).trans h2, (far _ (by omega) (Array.getElem?_eq_some_iff.1 h3).1).trans h3⟩
    · rintro pre x W ⟨h1, h2, h3⟩ hpre
      have hlt : w.heap.size + 1 < W.heap.size := (Array.getElem?_eq_some_iff.1 h3).1
      have hy := run_yield (P := Tryz.prog) (args := encs x) h3 (by rw [hlp]; exact hps x)
      rw [hlp] at hy
      obtain ⟨U, hU⟩ : ∃ U, W.alloc (ob x) = U := ⟨_, rfl⟩
      have u3 : U.heap[w.heap.size + 1]? = some (.loop (lp .ready)) := by rw [← hU]; exact (Below.heap_alloc _ _ _ hlt).trans h3
      have u2 : U.heap[w.heap.size]? = some (.deferred (some [])) := by rw [← hU]; exact (Below.heap_alloc _ _ _ (by omega)).trans h2
      have u1 : I pre U := by rw [← hU]; exact hI.alloc (ob x) h1
      have uk : Kp (w.heap.size + 2) W U := by rw [← hU]; exact hKa _ _ _ (by omega)
      have un : U.heap[W.heap.size]? = some (ob x) := by rw [← hU]; exact World.alloc_heap_new W _
      have us : U.heap.size = W.heap.size + 1 := by rw [← hU]; simp
      refine ⟨fn, _, assign, body, hy, roundIn_of_wpIn hfn (hassign _ x W _ ?_)⟩
      rw [hU]
      refine ⟨_, run_beginRound u3 (by rw [hlp]), ?_⟩
      have hltU : w.heap.size + 1 < U.heap.size := by omega
      have b3 : (U.putObj (w.heap.size + 1) (.loop { lp .ready with state := .busy })).heap[w.heap.size + 1]? = some (.loop { lp .ready with state := .busy }) := World.putObj_heap_same hltU
      have b2 : (U.putObj (w.heap.size + 1) (.loop { lp .ready with state := .busy })).heap[w.heap.size]? = some (.deferred (some [])) := (World.putObj_heap_other (by omega)).trans u2
      have b1 := hI.putObj (.loop { lp .ready with state := .busy }) u1 (by omega) u3 rfl
      have bn : (U.putObj (w.heap.size + 1) (.loop { lp .ready with state := .busy })).heap[W.heap.size]? = some (ob x) := (World.putObj_heap_other (by omega)).trans un
      have bs : (U.putObj (w.heap.size + 1) (.loop { lp .ready with state := .busy })).heap.size = W.heap.size + 1 := by rw [World.putObj_size]; exact us
      have bk : Kp (w.heap.size + 2) W (U.putObj (w.heap.size + 1) (.loop { lp .ready with state := .busy })) := hKt uk (hKp _ U _ _ _ (by omega) (by omega) u3 rfl rfl)
      have hWs : w.heap.size + 2 ≤ W.heap.size := by omega
      generalize (U.putObj (w.heap.size + 1) (.loop { lp .ready with state := .busy })) = X at b1 b2 b3 bk bn bs
      refine wpIn_mono (hbody _ pre x W.heap.size X b1 hpre bs bn hWs) ?_
      intro e a3 Y hgo
      cases e with
      | normal => ?_
      | _ => exact hgo.elim
      obtain ⟨k3, kp, hi⟩ := hgo
      have c3 := k3.same _ _ (by omega) b3 rfl
      have c2 := k3.same _ _ (Nat.le_refl _) b2 rfl
      have he := run_endRound (P := Tryz.prog) none c3
      refine ⟨_, _, he, rfl, ⟨hI.putObj _ hi (by omega) c3 rfl, (World.putObj_heap_other (by omega)).trans c2, ?_⟩, ?_⟩
      · rw [hlp]
        rw [hlp] at c3
        exact World.putObj_heap_same (Array.getElem?_eq_some_iff.1 c3).1
      · rw [hs]
        exact hKt (hKt bk (hKm kp)) (hKp _ Y _ _ _ (by omega) (by omega) c3 rfl rfl)
    · rintro e W ⟨⟨v, rfl⟩, h1, h2, h3⟩
      have he := run_endLoop (P := Tryz.prog) h3 (by rw [hlp]; simp)
      rw [show (lp .ready).pending = none by rw [hlp]] at he
      exact ⟨none, _, he, hdone _ _ (Nat.le_refl _) (hI.putObj _ h1 (by omega) h3 rfl) ((World.putObj_heap_other (by omega)).trans h2)⟩

end Go.Proofs.YtfhlceggihodeaaGreat

/- The contracts of slices.Values, slices.AppendSeq and slices.Collect at terms. -/

namespace Go.Proofs.YtfhlceggihodeaaGreat
open Go.RowKit Go.Shelf

attribute [local go_sem] Oper.semAt_some

abbrev encM (x : Tm) : Array Value := #[.agg #[.int .i64 x.c, .string x.s]]
abbrev VT : Nat := 79
abbrev ST : TypeId := 33

set_option maxRecDepth 100000 in
set_option maxHeartbeats 1000000 in
/-- slices.Values at terms. -/
theorem valuesT_in (n : Nat) (hn : 1 ≤ n) (l Bs n₀ : Nat) (ts : List Tm) (a : Option Addr) (cap len : Nat) (hlen : ts.length = len) (hm : len ≤ maxLen) (J : List Tm → World → Prop) (V : World) (hJ : OwnFrom V.heap.size J) (hn₀ : n₀ ≤ V.heap.size)
    (hY : ∀ pre x W, J pre W → pre ++ [x] <+: ts → YieldAt Fence.wide (n - 1) Tryz.prog l (encM x) W fun e W' => e = .returned (.bool true) ∧ J (pre ++ [x]) W' ∧ Below n₀ W W')
    (hBs : V.cell? ⟨Bs, 0, none⟩ = some (.slice a len cap)) (hw : 0 < len → ∃ x, a = some x ∧ x.block < n₀ ∧ TermsAt V x ts) (h0 : J [] V) :
    CallsIn Fence.wide n Tryz.prog VT #[.func (.yield l) #[] #[], .pointer (some ⟨Bs, 0, none⟩)] V fun e W' => (∃ v, e = .returned v) ∧ J ts W' := by
  have HW := Lib.hid hw
  have HL := Lib.hid hlen
  clear hw hlen
  unfold maxLen at hm
  refine callsIn_of_wp Tryz.func79 rfl trivial ?_ rfl
  simp only [Tryz.ntmps79, List.size_toArray, List.length_cons, List.length_nil, Nat.reduceAdd, Nat.reduceSub, Array.replicate_succ, Array.replicate_zero, List.push_toArray, List.append_toArray, List.nil_append, List.cons_append]
  gi_wp2
  gi_loopw [7] (fun i wr => ∃ k : Nat, k ≤ len ∧ i = .int .i64 k ∧ J (ts.take k) wr ∧ Below n₀ V wr) (fun i _ => len - (intOf i).toNat)
  case atStart => exact ⟨0, Nat.zero_le _, rfl, h0, Below.refl _ _⟩
  case round =>
    obtain ⟨k, hk, rfl, hJs, hnx⟩ := hrel
    by_cases hlt : k < len
    · have hkl : k < ts.length := by rw [HL.out]; exact hlt
      obtain ⟨ad, rfl, hb, hx⟩ := HW.out (by omega)
      obtain ⟨t, ht⟩ : ∃ t, ts[k] = t := ⟨_, rfl⟩
      have hc := hx.2 k hkl
      rw [ht, addr_next] at hc
      have c0 := (hnx.cell (p := ad.add (k * 2)) (by rw [addr_add_block]; exact hb)).trans hc.1
      have c1 := (hnx.cell (p := ⟨(ad.add (k * 2)).block, (ad.add (k * 2)).off + 1, none⟩) (by show (ad.add (k * 2)).block < _; rw [addr_add_block]; exact hb)).trans hc.2
      have HS : Hid (ts.take (k + 1) = ts.take k ++ [t]) := by rw [← ht]; exact Lib.hid (List.take_succ_eq_append_getElem hkl)
      have hJa := hJ.alloc (Obj.cells #[.int .i64 t.c, .string t.s] TI) hJs
      obtain ⟨fn, tmps, assign, body, hy, hR⟩ := hY _ t _ hJa (by rw [← HS.out]; exact List.take_prefix _ _)
      have hba : Below n₀ wr (wr.alloc (Obj.cells #[.int .i64 t.c, .string t.s] TI)) := (Below.refl _ _).alloc (Nat.le_trans hn₀ hnx.size) _
      have HBa := Lib.hid hba
      clear ht hkl hc hx hJa hba
      gi_wp2
      refine hR.mono ?_
      rintro e W3 ⟨rfl, hJ3, hk3⟩
      gi_wp2
      go_roundw
      case rel => exact ⟨k + 1, by omega, by simp, by rw [HS.out]; exact hJ3, hnx.trans (HBa.out.trans hk3)⟩
      case measure => simp [intOf]; omega
    · have HA : Hid (ts.take k = ts) := Lib.hid (List.take_of_length_le (by rw [HL.out]; omega))
      gi_wp2
      go_end0
      exact ⟨⟨_, rfl⟩, by rw [← HA.out]; exact hJs⟩

theorem valuesT_any (a : Option Addr) (len cap : Nat) (w : World) :
    Calls Tryz.prog 66 #[.slice a len cap] w fun e w' => e = .returned (.func (.func VT) #[] #[.pointer (some ⟨w.heap.size, 0, none⟩)]) ∧ w' = w.alloc (.cells #[.slice a len cap] ST) := by
  go_enter Tryz.func66, Tryz.ntmps66
  go_wp2
  go_ret
  exact ⟨rfl, rfl⟩

/-- The box B holds a slice that owns the terms. -/
def HoldT (base B : Nat) (pre : List Tm) (W : World) : Prop :=
  ∃ v, Boxed W B ST v ∧ W.ownsRow base TI 2 v pre.length (termsV pre) ∧ True
theorem HoldT.own (base B : Nat) : Own (HoldT base B) := holdsRow_own base B ST TI 2 (fun pre : List Tm => pre.length) (fun pre => termsV pre) (fun _ _ => True)

set_option maxRecDepth 100000 in
set_option maxHeartbeats 4000000 in
theorem appendSeq_in (n : Nat) (hn : 20 ≤ n) (Bs : Nat) (ts : List Tm) (a : Option Addr) (cap len : Nat) (w : World) (hlen : ts.length = len) (hm : len ≤ 1000000) (hBsz : Bs < w.heap.size)
    (hBs : w.cell? ⟨Bs, 0, none⟩ = some (.slice a len cap)) (hw : 0 < len → ∃ x, a = some x ∧ TermsAt w x ts) :
    CallsIn Fence.wide n Tryz.prog 97 #[.slice none 0 0, .func (.func VT) #[] #[.pointer (some ⟨Bs, 0, none⟩)]] w fun e w' =>
      (∃ v, e = .returned v ∧ w'.ownsRow w.heap.size TI 2 v len (termsV ts)) ∧ Below w.heap.size w w' := by
  obtain ⟨i0, hi, hz0, hz1, hz2⟩ := info_parts infoTerm
  have HW := Lib.hid hw
  have HL := Lib.hid hlen
  clear hw hlen
  refine callsIn_of_wp_marks Tryz.func97 rfl trivial ?_ rfl
  simp only [Tryz.ntmps97, List.size_toArray, List.length_cons, List.length_nil, Nat.reduceAdd, Nat.reduceSub, Array.replicate_succ, Array.replicate_zero, List.push_toArray, List.append_toArray, List.nil_append, List.cons_append]
  have hb0 := Boxed.new w ST (.slice none 0 0)
  have hBv : Below w.heap.size w (w.alloc (.cells #[.slice none 0 0] ST)) := (Below.refl _ w).alloc (Nat.le_refl _) _
  have hsz : (w.alloc (.cells #[.slice none 0 0] ST)).heap.size = w.heap.size + 1 := by simp
  obtain ⟨V, hV⟩ : ∃ V, w.alloc (.cells #[.slice none 0 0] ST) = V := ⟨_, rfl⟩
  rw [hV] at hb0 hBv hsz
  have HV := Lib.hid hV
  have HB0 := Lib.hid hb0
  clear hV hb0
  gi_wp2
  rw [HV.out]
  refine range_law2 (by omega) (gf := VT) (lb := #[.pointer (some ⟨Bs, 0, none⟩)]) rfl (enters_of Tryz.func79 (by kernel_rfl) rfl) (encs := encM) (fun _ => rfl) (KeepP w.heap.size) (fun h k => ⟨h.1.trans k.1, h.2.trans k.2⟩)
    (fun N W l o o' hl hwl hW ho hwk => ⟨belowK_b (w := V) (by omega) W l o o' hwl hW ho hwk, KeepsFrom.of_grownBy (grownBy_putObj' W l o') (fun j e => by cases e; exact hl)⟩)
    (fun h => ⟨h.1, keepsFrom_mono h.2 (by omega)⟩)
    (fun x => .cells #[.int .i64 x.c, .string x.s] TI) (fun N W o hs => ⟨(Below.refl _ _).alloc (by omega) _, (KeepsOthers.alloc _ _).from _⟩)
    (xs := ts)
    (fun l J X hX hlt hJ hY h0 => valuesT_in (n - 1) (by omega) l Bs w.heap.size ts a cap len HL.out (by unfold maxLen; omega) J X hJ (by omega) (fun pre x W1 hj hl => (hY pre x W1 hj hl).mono (fun _ _ ⟨a, b, c⟩ => ⟨a, b, c.1⟩))
      (((hX.cell (p := ⟨Bs, 0, none⟩) (by show Bs < V.heap.size; omega)).trans (hBv.cell (p := ⟨Bs, 0, none⟩) hBsz)).trans hBs) (fun h => by
        obtain ⟨ad, e, hx⟩ := HW.out h
        exact ⟨ad, e, hx.1, (hx.below hBv).below hX⟩) h0)
    (fun pre X => HoldT w.heap.size w.heap.size pre X ∧ Below w.heap.size w X)
    (OwnFrom.and (Own.from (HoldT.own _ _) _) (ownFrom_below (by omega) (by omega)))
    ⟨⟨_, HB0.out, ⟨rfl, .inl ⟨rfl, rfl⟩⟩, trivial⟩, hBv⟩
    (fun x b => { tmps := #[.slice none 0 0, .func (.func VT) #[] #[.pointer (some ⟨Bs, 0, none⟩)], .pointer (some ⟨w.heap.size, 0, none⟩), undef, .slice none 0 0, .pointer (some ⟨b, 0, none⟩), .func (.func VT) #[] #[.pointer (some ⟨Bs, 0, none⟩)], .agg #[.int .i64 x.c, .string x.s], undef, undef, undef, undef, undef], defers := [] }) ?assign ?body ?done
  case assign =>
    intro l x W K hK
    gi_wp2
    exact hK
  case body =>
    rintro l pre x b W ⟨⟨v, hbx, hrow, _⟩, hB⟩ hpre hsW hbn hb2
    have hplen := prefix_len hpre
    rw [HL.out] at hplen
    have hcell := hbx.cell
    have hbb : Boxed W b TI (.int .i64 0) → True := fun _ => trivial
    have c0 : W.cell? ⟨b, 0, none⟩ = some (.int .i64 x.c) := by simp [World.cell?, hbn]
    have c1 : W.cell? ⟨b, 1, none⟩ = some (.string x.s) := by simp [World.cell?, hbn]
    have HROW := Lib.hid hrow
    have HBX := Lib.hid hbx
    have HBn := Lib.hid hbn
    clear hrow hbx hpre hbn hbb
    have HPN := cell_pair_new W (.int .i64 x.c) (.string x.s) TI
    rw [hsW] at HPN
    have HP := Lib.hid HPN
    have hnr := HBX.out.not_row (by decide) HROW.out
    have HNR := Lib.hid hnr
    clear HPN hnr
    gi_wp2_with (refine wpListIn_append_own _ rfl (.tmp 8) (.tmp 10) ST rfl w.heap.size TI i0 (.agg #[.int .i64 0, .string ByteArray.empty]) 2 24 Tryz.underlying33 hi hz0 hz1 hz2 rfl (by decide) v pre.length (termsV pre) rfl (HROW.out.alloc _) ⟨b + 1, 0, none⟩ 1 1 [.int .i64 x.c, .string x.s] rfl rfl HP.out (fun u hu => by simp at hu; rcases hu with rfl | rfl <;> rfl) (by unfold maxLen; omega) (by omega) (by simp; omega) ?_)
    intro v' w1 hown' hgr' _
    have hbX : Boxed w1 w.heap.size ST v := (HBX.out.alloc _).kept hgr' HNR.out
    have hrowb : ∀ j, v.ownBlock = some j → w.heap.size ≤ j ∧ ∃ cs r, W.heap[j]? = some (.cells cs TI r) := by
      intro j ej
      rcases HROW.out.2 with ⟨rfl, _⟩ | ⟨g1', cap1', cur1, rfl, hg1, hg2, _⟩
      · cases ej
      · simp [Value.ownBlock] at ej
        subst ej
        exact ⟨hg1, _, _, hg2⟩
    have hko : KeepsOthers W (w1.setCell ⟨w.heap.size, 0, none⟩ v') := by
      refine (KeepsOthers.alloc _ _).trans ((KeepsOthers.of_grownBy hgr' fun j o ej hj => ?_).trans (KeepsOthers.setCell _ _ _))
      obtain ⟨hj1, cs, r, hjc⟩ := hrowb j ej
      have hlt : j < W.heap.size := (Array.getElem?_eq_some_iff.1 hjc).1
      rw [Below.heap_alloc _ _ _ hlt, hjc] at hj
      cases hj; rfl
    have hbel : Below w.heap.size W (w1.setCell ⟨w.heap.size, 0, none⟩ v') :=
      ((((Below.refl _ W).alloc (by omega) _).grown hgr' (by simp; omega) (fun j ej => (hrowb j ej).1))).setCell (p := ⟨w.heap.size, 0, none⟩) (Nat.le_refl _) _
    have hown'' : (w1.setCell ⟨w.heap.size, 0, none⟩ v').ownsRow w.heap.size TI 2 v' (pre.length + 1) (termsV pre ++ [.int .i64 x.c, .string x.s]) := hown'.kept (grownBy_setCell' w1 w.heap.size v') (.inr (hbX.not_row (by decide) hown').symm)
    have hcX := hbX.cell
    have hfX := hbX.frozen
    have hbs := hbX.set v'
    have HO := Lib.hid hown''
    have HKO := Lib.hid hko
    have HBL := Lib.hid hbel
    have HBS := Lib.hid hbs
    obtain ⟨g', cap', rfl⟩ := ownsRow_succ hown'
    clear hown' hown'' hgr' hko hbel hbs hrowb
    gi_wp2
    refine ⟨HKO.out.from _, ⟨HBL.out, HKO.out.from _⟩, ⟨_, HBS.out, ?_, trivial⟩, hB.trans HBL.out⟩
    rw [List.length_append, termsV_append]
    exact HO.out
  case done =>
    rintro D W hD ⟨⟨v, hbx, hrow, _⟩, hB⟩ hK
    have hcell := hbx.cell
    have HROW := Lib.hid hrow
    have HK := Lib.hid hK
    clear hrow hbx hK
    gi_wp2
    refine ⟨by simp, .inl ⟨_, _, rfl, run_takeDeferred HK.out, ?_⟩⟩
    refine ⟨v, by simp [results, Tryz.f97, go_sem], ⟨v, rfl, ?_⟩, hB.trans (belowK_b (w := w) (Nat.le_refl _) W D _ _ (by omega) HK.out rfl rfl)⟩
    have := ownsRow_putObj HROW.out (.deferred none) HK.out rfl
    rw [HL.out] at this
    exact this

theorem collect_any (Bs : Nat) (ts : List Tm) (a : Option Addr) (cap len : Nat) (w : World) (hlen : ts.length = len) (hm : len ≤ 1000000) (hBsz : Bs < w.heap.size)
    (hBs : w.cell? ⟨Bs, 0, none⟩ = some (.slice a len cap)) (hw : 0 < len → ∃ x, a = some x ∧ TermsAt w x ts) :
    Calls Tryz.prog 78 #[.func (.func VT) #[] #[.pointer (some ⟨Bs, 0, none⟩)]] w fun e w' =>
      (∃ v, e = .returned v ∧ w'.ownsRow w.heap.size TI 2 v len (termsV ts)) ∧ Below w.heap.size w w' := by
  have H := Lib.hid ((callsIn_wide (n := 30)).1 (appendSeq_in 30 (by omega) Bs ts a cap len w hlen hm hBsz hBs hw))
  clear hlen hBs hw
  go_enter Tryz.func78, Tryz.ntmps78
  go_wp2_with fail
  refine H.out.mono ?_
  rintro e w1 ⟨⟨v, rfl, ho⟩, hb⟩
  have HO := Lib.hid ho
  clear ho
  go_wp2
  go_ret
  exact ⟨⟨_, rfl, HO.out⟩, hb⟩

end Go.Proofs.YtfhlceggihodeaaGreat

/- The library's sort, at terms and 'compareTerms'. -/

namespace Go.Proofs.YtfhlceggihodeaaGreat
open Go.Shelf Go.RowKit Go.Lib Go.Sort

def sortT_ren : Go.Shelf.Ren := ⟨fun | 6 => 57 | 15 => 74 | 14 => 73 | 28 => 94 | 29 => 95 | 20 => 86 | 21 => 87 | 22 => 88 | 23 => 89 | 24 => 90 | 25 => 91 | 26 => 92 | 27 => 93 | 46 => 99 | 47 => 100 | 48 => 101 | 49 => 102 | 50 => 103 | 57 => 104 | n => n, fun | 22 => 33 | 24 => 42 | 25 => 72 | 3 => 3 | 39 => 105 | 0 => 0 | 53 => 123 | 55 => 125 | 4 => 4 | 46 => 117 | 45 => 116 | 50 => 25 | 5 => 5 | 9 => 9 | 66 => 128 | 70 => 132 | 76 => 134 | 77 => 135 | n => n, fun n => n⟩
theorem sortT : SlLaysF0.n6 Tryz.prog sortT_ren := {
  mixed := by kernel_rfl
  f6 := Exists.intro "slices.SortFunc[[]loop.example/foxcalculus/impl.Term,loop.example/foxcalculus/impl.Term]" ⟨of_decide_eq_true (by kernel_rfl), Tryz.func57.trans (congrArg some (by kernel_rfl))⟩
  f14 := Exists.intro "slices.pdqsortCmpFunc[loop.example/foxcalculus/impl.Term]" ⟨of_decide_eq_true (by kernel_rfl), Tryz.func73.trans (congrArg some (by kernel_rfl))⟩
  f15 := Tryz.func74.trans (congrArg some (by kernel_rfl))
  f20 := Exists.intro "slices.insertionSortCmpFunc[loop.example/foxcalculus/impl.Term]" ⟨of_decide_eq_true (by kernel_rfl), Tryz.func86.trans (congrArg some (by kernel_rfl))⟩
  f21 := Exists.intro "slices.heapSortCmpFunc[loop.example/foxcalculus/impl.Term]" ⟨of_decide_eq_true (by kernel_rfl), Tryz.func87.trans (congrArg some (by kernel_rfl))⟩
  f22 := Exists.intro "slices.breakPatternsCmpFunc[loop.example/foxcalculus/impl.Term]" ⟨of_decide_eq_true (by kernel_rfl), Tryz.func88.trans (congrArg some (by kernel_rfl))⟩
  f23 := Exists.intro "slices.choosePivotCmpFunc[loop.example/foxcalculus/impl.Term]" ⟨of_decide_eq_true (by kernel_rfl), Tryz.func89.trans (congrArg some (by kernel_rfl))⟩
  f24 := Exists.intro "slices.reverseRangeCmpFunc[loop.example/foxcalculus/impl.Term]" ⟨of_decide_eq_true (by kernel_rfl), Tryz.func90.trans (congrArg some (by kernel_rfl))⟩
  f25 := Exists.intro "slices.partialInsertionSortCmpFunc[loop.example/foxcalculus/impl.Term]" ⟨of_decide_eq_true (by kernel_rfl), Tryz.func91.trans (congrArg some (by kernel_rfl))⟩
  f26 := Exists.intro "slices.partitionEqualCmpFunc[loop.example/foxcalculus/impl.Term]" ⟨of_decide_eq_true (by kernel_rfl), Tryz.func92.trans (congrArg some (by kernel_rfl))⟩
  f27 := Exists.intro "slices.partitionCmpFunc[loop.example/foxcalculus/impl.Term]" ⟨of_decide_eq_true (by kernel_rfl), Tryz.func93.trans (congrArg some (by kernel_rfl))⟩
  f28 := Tryz.func94.trans (congrArg some (by kernel_rfl))
  f29 := Tryz.func95.trans (congrArg some (by kernel_rfl))
  f46 := Exists.intro "slices.siftDownCmpFunc[loop.example/foxcalculus/impl.Term]" ⟨of_decide_eq_true (by kernel_rfl), Tryz.func99.trans (congrArg some (by kernel_rfl))⟩
  f47 := Tryz.func100.trans (congrArg some (by kernel_rfl))
  f48 := Tryz.func101.trans (congrArg some (by kernel_rfl))
  f49 := Exists.intro "slices.medianAdjacentCmpFunc[loop.example/foxcalculus/impl.Term]" ⟨of_decide_eq_true (by kernel_rfl), Tryz.func102.trans (congrArg some (by kernel_rfl))⟩
  f50 := Exists.intro "slices.medianCmpFunc[loop.example/foxcalculus/impl.Term]" ⟨of_decide_eq_true (by kernel_rfl), Tryz.func103.trans (congrArg some (by kernel_rfl))⟩
  f57 := Exists.intro "slices.order2CmpFunc[loop.example/foxcalculus/impl.Term]" ⟨of_decide_eq_true (by kernel_rfl), Tryz.func104.trans (congrArg some (by kernel_rfl))⟩
  t0 := Tryz.underlying0
  a0 := Tryz.isAgg0
  z0 := Tryz.sizeOf0
  v0 := Tryz.zeroValue0
  t3 := Tryz.underlying3
  a3 := Tryz.isAgg3
  z3 := Tryz.sizeOf3
  v3 := Tryz.zeroValue3
  t4 := Tryz.underlying4
  a4 := Tryz.isAgg4
  z4 := Tryz.sizeOf4
  v4 := Tryz.zeroValue4
  t5 := Tryz.underlying5
  a5 := Tryz.isAgg5
  z5 := Tryz.sizeOf5
  v5 := Tryz.zeroValue5
  t9 := Tryz.underlying9
  a9 := Tryz.isAgg9
  z9 := Tryz.sizeOf9
  v9 := Tryz.zeroValue9
  t22 := Tryz.underlying33
  a22 := Tryz.isAgg33
  z22 := Tryz.sizeOf33
  v22 := Tryz.zeroValue33
  t25 := Tryz.underlying72
  a25 := Tryz.isAgg72
  z25 := Tryz.sizeOf72
  v25 := Tryz.zeroValue72
  t39 := Tryz.underlying105
  a39 := Tryz.isAgg105
  z39 := Tryz.sizeOf105
  v39 := Tryz.zeroValue105
  t45 := Tryz.underlying116
  a45 := Tryz.isAgg116
  z45 := Tryz.sizeOf116
  v45 := Tryz.zeroValue116
  t46 := Tryz.underlying117
  a46 := Tryz.isAgg117
  z46 := Tryz.sizeOf117
  v46 := Tryz.zeroValue117
  t50 := Tryz.underlying25
  a50 := Tryz.isAgg25
  z50 := Tryz.sizeOf25
  v50 := Tryz.zeroValue25
  t53 := Tryz.underlying123
  a53 := Tryz.isAgg123
  z53 := Tryz.sizeOf123
  v53 := Tryz.zeroValue123
  t55 := Tryz.underlying125
  a55 := Tryz.isAgg125
  z55 := Tryz.sizeOf125
  v55 := Tryz.zeroValue125
  t66 := Tryz.underlying128
  a66 := Tryz.isAgg128
  z66 := Tryz.sizeOf128
  v66 := Tryz.zeroValue128
  t70 := Tryz.underlying132
  a70 := Tryz.isAgg132
  z70 := Tryz.sizeOf132
  v70 := Tryz.zeroValue132
  t76 := Tryz.underlying134
  a76 := Tryz.isAgg134
  z76 := Tryz.sizeOf134
  v76 := Tryz.zeroValue134
  t77 := Tryz.underlying135
  a77 := Tryz.isAgg135
  z77 := Tryz.sizeOf135
  v77 := Tryz.zeroValue135 }

def encT (t : Tm) : List Value := [.int .i64 t.c, .string t.s]
def cmpT (a b : Tm) : Int := cmpW a.s b.s
theorem ltOf_cmpT (a b : Tm) : ltOf cmpT a b = lessW a.s b.s := by rw [lessW_cmp]; rfl
theorem swoT : SWO (ltOf cmpT) where
  irrefl x := by rw [ltOf_cmpT]; exact lessW_irrefl _
  trans x y z h1 h2 := by rw [ltOf_cmpT] at *; exact lessW_trans h1 h2
  ntrans x y z h1 h2 := by
    rw [ltOf_cmpT] at *
    cases h3 : lessW x.s z.s with
    | false => rfl
    | true =>
      cases h4 : lessW y.s x.s with
      | true => have := lessW_trans h4 h3; rw [h2] at this; cases this
      | false => have := lessW_tri h1 h4; rw [this, h2] at h3; cases h3

theorem cmpLaysT (blk off size : Nat) (w : World) : CmpLays Tryz.prog 39 #[] encT 2 cmpT blk off size w :=
  fun _ _ _ _ x y => compareTerms_any x y _

theorem sortTerms (blk off cap : Nat) (d : Array Tm) (w : World) (hH : HoldsK encT 2 w blk off d) (hblk : blk < w.heap.size) (hsz : d.size < 4611686018427387904) :
    Calls Tryz.prog 57 #[.slice (some ⟨blk, off, none⟩) d.size cap, .func (.func 39) #[] #[]] w fun e w' => e = .returned (.tuple #[]) ∧ ∃ d' n os, PermIn 0 d.size d d' ∧ SortedIn (ltOf cmpT) 0 d.size d' ∧ w' = sortWorldK encT 2 w blk off n d' os :=
  AnyQ.slices_SortFunc sortT 2 Tryz.isAgg42 Tryz.sizeOf42 encT (fun _ => rfl) (fun x v hv => by simp [encT] at hv; rcases hv with rfl | rfl <;> rfl) cmpT swoT 39 #[] blk off cap d w
    (enters_of Tryz.func39 (by kernel_rfl) rfl) (cmpLaysT blk off d.size w) hH hblk hsz

end Go.Proofs.YtfhlceggihodeaaGreat

/- The contract of slices.SortedFunc at terms. -/

namespace Go.Proofs.YtfhlceggihodeaaGreat
open Go.RowKit Go.Shelf Go.Sort

theorem flat_terms (d : Array Tm) : flatK encT 2 d = (termsV d.toList).toArray := by
  apply Array.toList_inj.1
  apply List.ext_getElem
  · simp [flatK, termsV_len]
  · intro j h1 h2
    have hj : j < d.size * 2 := by simpa [flatK] using h1
    have hq : j / 2 < d.toList.length := by simp; omega
    have hg := termsV_get d.toList (j / 2) hq
    have e1 : (flatK encT 2 d).toList[j] = (encT d[j / 2]!)[j % 2]! := by simp [flatK]
    have e0 : d[j / 2]! = d.toList[j / 2] := by rw [getElem!_pos d (j / 2) (by simpa using hq)]; simp
    rw [e1, e0]
    rcases Nat.mod_two_eq_zero_or_one j with h | h
    · rw [h]
      have e2 : j / 2 * 2 = j := by omega
      rw [e2] at hg
      exact ((List.getElem?_eq_some_iff.1 hg.1).2).symm
    · rw [h]
      have e2 : j / 2 * 2 + 1 = j := by omega
      rw [e2] at hg
      exact ((List.getElem?_eq_some_iff.1 hg.2).2).symm

theorem holdsK_of_owns {w : World} {base g cap n : Nat} {ts : List Tm} (hn : ts.length = n) (h : w.ownsRow base TI 2 (.slice (some ⟨g, 0, none⟩) n cap) n (termsV ts)) : HoldsK encT 2 w g 0 ts.toArray := by
  unfold HoldsK
  rw [flat_terms]
  intro j hj
  have hj2 : j < (termsV ts).length := by simpa using hj
  have hj3 : j < n * 2 := by rw [termsV_len] at hj2; omega
  refine ⟨?_, by rw [Nat.zero_add]; exact h.frozenAt j⟩
  rw [Nat.zero_add, h.cellAt j hj3, List.getElem?_eq_getElem hj2]
  simp only [id]
  rw [getElem!_pos _ j (by simpa using hj2)]
  simp

theorem owns_put {w : World} {base g cap n m : Nat} {os : Array Obj} {F : List Value} {xs : List Value} (hF : F.length = n * 2) (h : w.ownsRow base TI 2 (.slice (some ⟨g, 0, none⟩) n cap) n xs) :
    (grow (putRow id (Sort.ahead w m) g 0 F.toArray) os).ownsRow base TI 2 (.slice (some ⟨g, 0, none⟩) n cap) n F ∧ w.grownBy (grow (putRow id (Sort.ahead w m) g 0 F.toArray) os) (some g) := by
  rcases h.2 with ⟨h, _⟩ | ⟨g1, cap1, cur, h1, hb, hg, hn, hc, hs, ht⟩
  · cases h
  · cases h1
    have hlt : g < w.heap.size := (Array.getElem?_eq_some_iff.1 hg).1
    have hh : (grow (putRow id (Sort.ahead w m) g 0 F.toArray) os).heap[g]? = some (.cells (putCells id 0 F.toArray cur) TI (0, 0)) := by
      rw [heap_grow_old _ _ (by simpa using hlt)]
      simp [putRow, mapBlock, Sort.ahead, Array.getElem?_modify, hg, onCells]
    refine ⟨⟨hF, .inr ⟨g, cap, _, rfl, hb, hh, hn, hc, by simp [putCells, hs], ?_⟩⟩, ⟨rfl, rfl, rfl, by simp, fun k hk hne => ?_⟩⟩
    · have hle : F.length ≤ cur.size := by rw [hs, hF]; omega
      rw [← hF]
      apply List.ext_getElem?
      intro j
      by_cases hj : j < F.length
      · rw [List.getElem?_take_of_lt hj, Array.getElem?_toList]
        simp [putCells, hj, show j < cur.size by omega]
      · rw [List.getElem?_take_eq_none (by omega), List.getElem?_eq_none (by omega)]
    · rw [heap_grow_old _ _ (by simpa using hk)]
      have : g ≠ k := fun e => hne (by rw [e])
      simp [putRow, mapBlock, Sort.ahead, Array.getElem?_modify, this]

theorem perm_of {ts : List Tm} {d : Array Tm} (h : PermIn 0 ts.toArray.size ts.toArray d) : d.toList.Perm ts := by
  obtain ⟨h1, _, h3⟩ := h
  have e1 : d.extract 0 ts.toArray.size = d := by rw [← h1]; simp
  have e2 : ts.toArray.extract 0 ts.toArray.size = ts.toArray := by simp
  rw [e1, e2] at h3
  simpa using h3
theorem sorted_of {d : Array Tm} {n : Nat} (hn : d.size = n) (h : SortedIn (ltOf cmpT) 0 n d) : d.toList.Pairwise (fun a b => lessW b.s a.s = false) := by
  rw [List.pairwise_iff_getElem]
  intro i j hi hj hij
  have := h i j (Nat.zero_le _) hij (by rw [← hn]; simpa using hj)
  rw [ltOf_cmpT, getElem!_pos d j (by simpa using hj), getElem!_pos d i (by simpa using hi)] at this
  simpa using this

/-- The library's sort on a row of the call's own. -/
theorem sortOwn_any (base : Nat) (v : Value) (n : Nat) (ts : List Tm) (w : World) (hn : ts.length = n) (hm : n ≤ 1000000) (hbase : base ≤ w.heap.size) (h : w.ownsRow base TI 2 v n (termsV ts)) :
    Calls Tryz.prog 57 #[v, .func (.func 39) #[] #[]] w fun e w' =>
      e = .returned (.tuple #[]) ∧ (∃ ss : List Tm, ss.Perm ts ∧ ss.Pairwise (fun a b => lessW b.s a.s = false) ∧ w'.ownsRow base TI 2 v n (termsV ss)) ∧ Below base w w' := by
  by_cases h0 : n = 0
  · subst h0
    obtain rfl := List.length_eq_zero_iff.1 hn
    obtain ⟨p, cap, rfl⟩ : ∃ p cap, v = .slice p 0 cap := by
      rcases h.2 with ⟨rfl, _⟩ | ⟨g, cap, cur, rfl, _⟩
      · exact ⟨_, _, rfl⟩
      · exact ⟨_, _, rfl⟩
    refine (AnyF.slices_SortFunc_none (ρ := sortT_ren) { sortT with } p cap (.func (.func 39) #[] #[]) w).mono ?_
    rintro e w' ⟨rfl, rfl⟩
    exact ⟨rfl, ⟨[], List.Perm.refl _, List.Pairwise.nil, h⟩, Below.refl _ _⟩
  · rcases h.2 with ⟨rfl, h0'⟩ | ⟨g, cap, cur, rfl, hb, hg, hnc, hcm, _⟩
    · exact absurd h0' h0
    have hs := sortTerms g 0 cap ts.toArray w (holdsK_of_owns hn h) (Array.getElem?_eq_some_iff.1 hg).1 (by simp; omega)
    rw [show ts.toArray.size = n by simpa using hn] at hs
    refine hs.mono ?_
    rintro e w' ⟨rfl, d', m, os, hp, hso, rfl⟩
    have hsz : d'.size = n := by rw [hp.1]; simpa using hn
    have hp' : PermIn 0 ts.toArray.size ts.toArray d' := by rw [show ts.toArray.size = n by simpa using hn]; exact hp
    have ho := owns_put (m := m) (os := os) (F := termsV d'.toList) (by rw [termsV_len]; simp [hsz]) h
    have e1 : sortWorldK encT 2 w g 0 m d' os = grow (putRow id (Sort.ahead w m) g 0 (termsV d'.toList).toArray) os := by
      unfold sortWorldK putRowK; rw [flat_terms]
    rw [e1]
    exact ⟨rfl, ⟨d'.toList, perm_of hp', sorted_of hsz hso, ho.1⟩, (Below.refl _ _).grown ho.2 hbase (fun j ej => by cases ej; exact hb)⟩

set_option maxHeartbeats 1000000 in
theorem sortedFunc_any (Bs : Nat) (ts : List Tm) (a : Option Addr) (cap len : Nat) (w : World) (hlen : ts.length = len) (hm : len ≤ 1000000) (hBsz : Bs < w.heap.size)
    (hBs : w.cell? ⟨Bs, 0, none⟩ = some (.slice a len cap)) (hw : 0 < len → ∃ x, a = some x ∧ TermsAt w x ts) :
    Calls Tryz.prog 65 #[.func (.func VT) #[] #[.pointer (some ⟨Bs, 0, none⟩)], .func (.func 39) #[] #[]] w fun e w' =>
      (∃ v, e = .returned v ∧ ∃ ss : List Tm, ss.Perm ts ∧ ss.Pairwise (fun a b => lessW b.s a.s = false) ∧ w'.ownsRow w.heap.size TI 2 v len (termsV ss)) ∧ Below w.heap.size w w' := by
  have H := Lib.hid (collect_any Bs ts a cap len w hlen hm hBsz hBs hw)
  have HL := Lib.hid hlen
  clear hlen hBs hw
  go_enter Tryz.func65, Tryz.ntmps65
  go_wp2_with fail
  refine H.out.mono ?_
  rintro e w1 ⟨⟨v, rfl, ho⟩, hb⟩
  have HO := Lib.hid ho
  clear ho
  go_wp2_with fail
  refine (sortOwn_any w.heap.size v len ts w1 HL.out hm hb.size HO.out).mono ?_
  rintro e w2 ⟨rfl, ⟨ss, hp, hs, ho⟩, hb2⟩
  have HS := Lib.hid (And.intro hp (And.intro hs ho))
  clear hp hs ho
  go_wp2
  go_ret
  exact ⟨⟨_, rfl, ss, HS.out⟩, hb.trans hb2⟩

end Go.Proofs.YtfhlceggihodeaaGreat

/- The contracts of the program's 'joinTerms' and 'push'. -/

namespace Go.Proofs.YtfhlceggihodeaaGreat
open Go.RowKit Go.Shelf

set_option maxHeartbeats 1000000 in
theorem joinTerms_any (a b : Tm) (w : World) (hc : -9223372036854775808 ≤ a.c + b.c ∧ a.c + b.c ≤ 9223372036854775807) :
    Calls Tryz.prog 48 #[.agg #[.int .i64 a.c, .string a.s], .agg #[.int .i64 b.c, .string b.s]] w fun e w' => e = .returned (.agg #[.int .i64 (a.c + b.c), .string a.s]) ∧ Below w.heap.size w w' := by
  obtain ⟨c, s⟩ := a
  obtain ⟨d, t⟩ := b
  have hw : IntKind.i64.wrap (c + d) = c + d := IntWalk.i64_in _ hc
  go_enter Tryz.func48, Tryz.ntmps48
  go_wp2
  exact bodyPost_ret (v := .agg #[.int .i64 (c + d), .string s]) (by simp [results, Tryz.results48, go_sem]) rfl ⟨rfl, (((Below.refl _ _).alloc (Nat.le_refl _) _).alloc (by simp) _).alloc (by simp; omega) _⟩

/-- All below B as it was, but for the block bs. -/
structure BelowBut (bs B : Nat) (w w' : World) : Prop where
  os : w'.os = w.os
  tape : w'.tape = w.tape
  output : w'.output = w.output
  size : w.heap.size ≤ w'.heap.size
  block : ∀ k, k < B → k ≠ bs → w'.heap[k]? = w.heap[k]?
theorem BelowBut.refl (bs B : Nat) (w : World) : BelowBut bs B w w := ⟨rfl, rfl, rfl, Nat.le_refl _, fun _ _ _ => rfl⟩
theorem BelowBut.trans {bs B : Nat} {a b c : World} (h : BelowBut bs B a b) (k : BelowBut bs B b c) : BelowBut bs B a c :=
  ⟨k.os.trans h.os, k.tape.trans h.tape, k.output.trans h.output, Nat.le_trans h.size k.size, fun i hi hb => (k.block i hi hb).trans (h.block i hi hb)⟩
theorem BelowBut.of {B : Nat} {w w' : World} (bs : Nat) (h : Below B w w') : BelowBut bs B w w' := ⟨h.os, h.tape, h.output, h.size, fun k hk _ => h.block k hk⟩

abbrev SrT : TypeId := 74
abbrev CF : Value := .func (.func 39) #[] #[]
/-- The struct at bs holds the terms. -/
def HoldS (base bs : Nat) (acc : List Tm) (W : World) : Prop :=
  ∃ v, W.heap[bs]? = some (.cells #[v, CF] SrT (0, 0)) ∧ W.ownsRow base TI 2 v acc.length (termsV acc)

/-- What the calls of push share. -/
theorem push_cells {base bs : Nat} {acc : List Tm} {w : World} (h : HoldS base bs acc w) (hbs : bs < base) (hbase : base ≤ w.heap.size) (x : Tm) :
    ∃ v, (w.alloc (.cells #[.int .i64 x.c, .string x.s] TI)).cell? ⟨bs, 0, none⟩ = some v ∧ (w.alloc (.cells #[.int .i64 x.c, .string x.s] TI)).cell? ⟨bs, 1, none⟩ = some CF ∧
      (w.alloc (.cells #[.int .i64 x.c, .string x.s] TI)).cell? ⟨w.heap.size, 0, none⟩ = some (.int .i64 x.c) ∧ (w.alloc (.cells #[.int .i64 x.c, .string x.s] TI)).cell? ⟨w.heap.size, 1, none⟩ = some (.string x.s) ∧
      (w.alloc (.cells #[.int .i64 x.c, .string x.s] TI)).ownsRow base TI 2 v acc.length (termsV acc) ∧ (w.alloc (.cells #[.int .i64 x.c, .string x.s] TI)).heap[bs]? = some (.cells #[v, CF] SrT (0, 0)) ∧ ∀ j, v.ownBlock = some j → base ≤ j ∧ j < w.heap.size := by
  obtain ⟨v, hbx, hrow⟩ := h
  have hbV : Below w.heap.size w (w.alloc (.cells #[.int .i64 x.c, .string x.s] TI)) := (Below.refl _ _).alloc (Nat.le_refl _) _
  have hbxV := (hbV.block bs (by omega)).trans hbx
  have hxV : (w.alloc (.cells #[.int .i64 x.c, .string x.s] TI)).heap[w.heap.size]? = some (.cells #[.int .i64 x.c, .string x.s] TI (0, 0)) := World.alloc_heap_new _ _
  exact ⟨v, by simp [World.cell?, hbxV], by simp [World.cell?, hbxV], (by unfold World.cell?; rw [hxV]; rfl), (by unfold World.cell?; rw [hxV]; rfl), hrow.alloc _, hbxV, fun j ej => by
    rcases hrow.2 with ⟨rfl, _⟩ | ⟨g1, cap1, cur1, rfl, hg1, hg2, _⟩
    · cases ej
    · simp [Value.ownBlock] at ej
      subst ej
      exact ⟨hg1, (Array.getElem?_eq_some_iff.1 hg2).1⟩⟩

theorem HoldS.set {bs : Nat} {w : World} {v : Value} (h : w.heap[bs]? = some (.cells #[v, CF] SrT (0, 0))) (u : Value) : (w.setCell ⟨bs, 0, none⟩ u).heap[bs]? = some (.cells #[u, CF] SrT (0, 0)) := by
  simp [World.setCell, Array.getElem?_modify, h]
theorem bs_frozen {bs : Nat} {w : World} {v : Value} (h : w.heap[bs]? = some (.cells #[v, CF] SrT (0, 0))) : w.frozen? ⟨bs, 0, none⟩ = false := by
  simp [World.frozen?, h]
theorem frozen_past {w : World} {a : Addr} (h : w.frozen? a = false) (hb : a.block < w.heap.size) (o : Obj) : (w.alloc o).frozen? a = false :=
  (World.frozen?_of_block (w := w) (Below.heap_alloc w o a.block hb)).trans h
theorem ownLow {W : World} {base : Nat} {e : TypeId} {size : Nat} {v : Value} {n : Nat} {xs : List Value} (h : W.ownsRow base e size v n xs) : ∀ j, v.ownBlock = some j → base ≤ j := by
  intro j ej
  rcases h.2 with ⟨rfl, _⟩ | ⟨g1, cap1, cur1, rfl, hg1, _⟩
  · cases ej
  · simp [Value.ownBlock] at ej
    subst ej
    exact hg1
/-- What an append stored into the struct leaves. -/
theorem push_done {base bs m : Nat} {W w1 : World} {v v' : Value} {o : Obj} {us : List Tm} {xs zs : List Value} {n : Nat} (hbx : W.heap[bs]? = some (.cells #[v, CF] SrT (0, 0))) (hbs : bs < base) (hbase : base ≤ W.heap.size)
    (hrow : W.ownsRow base TI 2 v n zs) (hown1 : w1.ownsRow base TI 2 v' m xs) (hm : m = us.length) (hx : xs = termsV us) (hgrow : (W.drew.alloc o).grownBy w1 v.ownBlock) :
    HoldS base bs us (w1.setCell ⟨bs, 0, none⟩ v') ∧ BelowBut bs base W (w1.setCell ⟨bs, 0, none⟩ v') := by
  have hl := ownLow hrow
  have hB : Below base W w1 := ((Below.refl base W).drew.alloc (by show base ≤ W.heap.size; exact hbase) _).grown hgrow (by simp; show base ≤ W.heap.size + 1; omega) hl
  have h1 : w1.heap[bs]? = some (.cells #[v, CF] SrT (0, 0)) := (hB.block bs hbs).trans hbx
  refine ⟨⟨v', HoldS.set h1 v', ?_⟩, (BelowBut.of bs hB).trans ⟨rfl, rfl, rfl, (KeepsWalks.setCell w1 _ _).size, fun k _ hk => Below.heap_setCell _ _ _ k hk⟩⟩
  rw [← hm, ← hx]
  exact ownsRow_setCell_below hown1 hbs _

set_option maxRecDepth 100000 in
set_option maxHeartbeats 4000000 in
theorem push_empty (base bs : Nat) (x : Tm) (w : World) (h : HoldS base bs [] w) (hbs : bs < base) (hbase : base ≤ w.heap.size) :
    Calls Tryz.prog 67 #[.pointer (some ⟨bs, 0, none⟩), .agg #[.int .i64 x.c, .string x.s], .func (.func 48) #[] #[]] w fun e w' =>
      e = .returned (.tuple #[]) ∧ HoldS base bs [x] w' ∧ BelowBut bs base w w' := by
  have hmx : Tryz.prog.follows .mixedOrders = true := by kernel_rfl
  obtain ⟨i0, hi, hz0, hz1, hz2⟩ := info_parts infoTerm
  obtain ⟨v, s0, s1, x0, x1, hrow, hbx, hblk⟩ := push_cells h hbs hbase x
  obtain ⟨a, cap, rfl⟩ : ∃ a cap, v = .slice a 0 cap := by
    rcases hrow.2 with ⟨rfl, _⟩ | ⟨g, cap, cur, rfl, _⟩
    · exact ⟨_, _, rfl⟩
    · exact ⟨_, _, rfl⟩
  obtain ⟨N, hN⟩ : ∃ N, w.heap.size = N := ⟨_, rfl⟩
  have hs : (w.alloc (.cells #[.int .i64 x.c, .string x.s] TI)).heap.size = N + 1 := by simp [hN]
  have hbw : Below w.heap.size w (w.alloc (.cells #[.int .i64 x.c, .string x.s] TI)) := (Below.refl _ _).alloc (Nat.le_refl _) _
  rw [hN] at x0 x1 hbase hbw
  have HR := Lib.hid hrow
  have HBX := Lib.hid hbx
  have HS := Lib.hid hs
  have HBW := Lib.hid hbw
  have HN := Lib.hid hN
  clear hrow hbx hs h hbw
  go_enter Tryz.func67, Tryz.ntmps67
  go_wp2_with fail
  try rw [hN]
  generalize (w.alloc (.cells #[.int .i64 x.c, .string x.s] TI)) = V at *
  refine wp_region_below hmx (by kernel_rfl) ?_
  repeat (((with_reducible refine wpQuiet_step (fun K hK => ?_)); go_simp; first | ((with_reducible refine hK _ ?_); clear hK K) | (refine (if_neg (by decide)).mpr ?_; (with_reducible refine hK _ ?_); clear hK K)))
  with_reducible refine wpQuiet_nil ?_
  rintro W ⟨⟨W, hW⟩, rfl⟩
  have y0 := (hW.cell (p := ⟨bs, 0, none⟩) (by show bs < _; rw [HS.out]; omega)).trans s0
  have y1 := (hW.cell (p := ⟨N, 0, none⟩) (by show N < _; rw [HS.out]; omega)).trans x0
  have y2 := (hW.cell (p := ⟨N, 1, none⟩) (by show N < _; rw [HS.out]; omega)).trans x1
  have hrW : W.ownsRow base TI 2 (.slice a 0 cap) 0 [] := OwnT.below (ts := []) HR.out hW
  have hbW : W.heap[bs]? = some (.cells #[.slice a 0 cap, CF] SrT (0, 0)) := (hW.block bs (by rw [HS.out]; omega)).trans HBX.out
  have hsz : N + 1 ≤ W.heap.size := by rw [← HS.out]; exact hW.size
  have HBB : Hid (BelowBut bs base w W) := Lib.hid ((BelowBut.of bs (HBW.out.mono hbase)).trans (BelowBut.of bs (hW.mono (by rw [HS.out]; omega))))
  change Exit.then _ _ _ _ W
  clear s0 s1 x0 x1 hW HR HBX HS HBW
  have HRW := Lib.hid hrW
  have HBXW := Lib.hid hbW
  have hf := bs_frozen hbW
  clear hrW hbW
  have hbs2 : bs < W.heap.size := by omega
  have hne : some bs ≠ (Value.slice a 0 cap).ownBlock := fun e => by have := (hblk bs e.symm).1; omega
  have hneN : some N ≠ (Value.slice a 0 cap).ownBlock := fun e => by have := (hblk N e.symm).2; omega
  have hNlt : N < W.heap.size := by omega
  clear hblk
  go_wp2_with fail
  have hwr : W.drew.heap.size = W.heap.size := rfl
  go_region_law
    ((refine step_append_lies _ (by rfl) _ _ _ (by rfl) base TI i0 _ 2 24 Tryz.underlying33 hi hz0 hz1 hz2 rfl (by omega) (.slice a 0 cap) 0 [] (by rfl) ((HRW.out.alloc _).drew)
        ⟨W.heap.size, 0, none⟩ 1 1 [.int .i64 x.c, .string x.s] (by rfl) (by rfl) (World.news_of_block (cs := #[.int .i64 x.c, .string x.s]) (t := TI) (fr := (0, 0)) (heap_alloc_new W _)) (by simp [Value.oneCell'])
        (by omega) (by decide) (by decide) (by simp; omega) (W.heap.size + 1) (by simp) ?_; intro gg cap1 w1 hown1 hgrow hat hlt; have hf1 : w1.frozen? ⟨bs, 0, none⟩ = false := (hgrow.frozen_far _ (by simp; omega) hne).trans (frozen_past hf hbs2 _); have hc1 : w1.cell? ⟨bs, 0, none⟩ = some (.slice a 0 cap) := (hgrow.cell_far _ (by simp; omega) hne).trans (cell_past (cell_drawn y0) _)))
  all_goals
    obtain ⟨d1, d2⟩ := push_done (us := [x]) HBXW.out hbs (by omega) HRW.out hown1 rfl rfl hgrow
    exact bodyPost_end (results_none rfl _ _ _) rfl ⟨rfl, d1, HBB.out.trans d2⟩

theorem add_off (g n : Nat) : (⟨g, 0, none⟩ : Addr).add n = ⟨g, n, none⟩ := by
  unfold Addr.add
  by_cases h : n = 0
  · subst h; simp
  · simp [h]
theorem compareBytes_zero : ∀ a b : List UInt8, Lib.compareBytes a b = 0 → a = b
  | [], [], _ => rfl
  | [], _ :: _, h => by simp [Lib.compareBytes] at h
  | _ :: _, [], h => by simp [Lib.compareBytes] at h
  | a :: ar, b :: bs, h => by
    unfold Lib.compareBytes at h
    by_cases h1 : a < b
    · rw [if_pos h1] at h; cases h
    · by_cases h2 : b < a
      · rw [if_neg h1, if_pos h2] at h; cases h
      · rw [if_neg h1, if_neg h2] at h
        rw [compareBytes_zero ar bs h]
        have : a = b := by
          apply UInt8.toNat_inj.1
          rw [UInt8.lt_iff_toNat_lt] at h1 h2
          omega
        rw [this]
theorem cmpW_zero {a b : ByteArray} (h : cmpW a b = 0) : a = b := by
  unfold cmpW orInt at h
  split at h
  · exact ByteArray.ext (Array.ext' (compareBytes_zero _ _ h))
  · rename_i h0
    exact absurd h (by first | exact h0 | simpa using h0)
theorem compareBytes_self : ∀ a : List UInt8, Lib.compareBytes a a = 0
  | [] => rfl
  | a :: ar => by
    unfold Lib.compareBytes
    rw [if_neg (by rw [UInt8.lt_iff_toNat_lt]; omega), if_neg (by rw [UInt8.lt_iff_toNat_lt]; omega)]
    exact compareBytes_self ar
theorem cmpW_self (a : ByteArray) : cmpW a a = 0 := by
  unfold cmpW orInt Lib.compareInt
  simp [compareBytes_self]

set_option maxRecDepth 100000 in
set_option maxHeartbeats 4000000 in
theorem push_more (base bs : Nat) (pre : List Tm) (l x : Tm) (w : World) (h : HoldS base bs (pre ++ [l]) w) (hls : l.s ≠ x.s) (hlen : pre.length ≤ 1000000) (hbs : bs < base) (hbase : base ≤ w.heap.size) :
    Calls Tryz.prog 67 #[.pointer (some ⟨bs, 0, none⟩), .agg #[.int .i64 x.c, .string x.s], .func (.func 48) #[] #[]] w fun e w' =>
      e = .returned (.tuple #[]) ∧ HoldS base bs (pre ++ [l] ++ [x]) w' ∧ BelowBut bs base w w' := by
  have hmx : Tryz.prog.follows .mixedOrders = true := by kernel_rfl
  obtain ⟨i0, hi, hz0, hz1, hz2⟩ := info_parts infoTerm
  obtain ⟨v, s0, s1, x0, x1, hrow, hbx, hblk⟩ := push_cells h hbs hbase x
  obtain ⟨g, cap, rfl⟩ : ∃ g cap, v = .slice (some ⟨g, 0, none⟩) (pre ++ [l]).length cap := by
    rcases hrow.2 with ⟨rfl, h0⟩ | ⟨g, cap, cur, rfl, _⟩
    · rw [List.length_append] at h0; simp at h0
    · exact ⟨_, _, rfl⟩
  have hta := termsAt_of_owns rfl hrow
  obtain ⟨hgb, hgN⟩ := hblk g rfl
  obtain ⟨l0, l1⟩ := hta.2 pre.length (by rw [List.length_append]; exact Nat.lt_succ_self _)
  rw [List.getElem_append_right (Nat.le_refl _)] at l0 l1
  simp only [Nat.sub_self, List.getElem_cons_zero] at l0 l1
  rw [addr_next] at l1
  obtain ⟨k, hk⟩ : ∃ k, pre.length = k := ⟨_, rfl⟩
  have hll : (pre ++ [l]).length = k + 1 := by rw [List.length_append, hk]; rfl
  have hw1 : IntKind.i64.wrap (((k + 1 : Nat) : Int) - 1) = (k : Int) := by rw [IntWalk.i64_in _ (by omega)]; omega
  have hw2 : IntKind.i64.wrap ((k : Int) + 1 - 1) = (k : Int) := by rw [IntWalk.i64_in _ (by omega)]; omega
  rw [hk] at l0 l1 hlen
  rw [hll] at hrow s0 hbx hblk
  obtain ⟨us, hus⟩ : ∃ us, pre ++ [l] = us := ⟨_, rfl⟩
  rw [hus] at hrow ⊢
  have HLL := Lib.hid hll
  have HUS := Lib.hid hus
  have HK := Lib.hid hk
  clear hll hus hta hk
  obtain ⟨N, hN⟩ : ∃ N, w.heap.size = N := ⟨_, rfl⟩
  have hs : (w.alloc (.cells #[.int .i64 x.c, .string x.s] TI)).heap.size = N + 1 := by simp [hN]
  have hbw : Below w.heap.size w (w.alloc (.cells #[.int .i64 x.c, .string x.s] TI)) := (Below.refl _ _).alloc (Nat.le_refl _) _
  rw [hN] at x0 x1 hbase hbw
  have HR := Lib.hid hrow
  have HBX := Lib.hid hbx
  have HS := Lib.hid hs
  have HBW := Lib.hid hbw
  have HN := Lib.hid hN
  obtain ⟨v, hv⟩ : ∃ v, cmpW l.s x.s = v := ⟨_, rfl⟩
  have HC : Hid (∀ W : World, Calls Tryz.prog 39 #[.agg #[.int .i64 l.c, .string l.s], .agg #[.int .i64 x.c, .string x.s]] W fun e w' => e = .returned (.int .i64 v) ∧ Below W.heap.size W w') := Lib.hid (fun W => by
    rw [← hv]
    exact (compareTerms_any l x W).mono fun _ _ ⟨h1, h2⟩ => ⟨h1, h2.below⟩)
  have hk0 : (0 : Int) ≤ (k : Int) := Int.natCast_nonneg _
  have hk1 : (k : Int) < (k : Int) + 1 := by omega
  have hk2 : (k : Int) < ((k + 1 : Nat) : Int) := by omega
  have hv0 : v ≠ 0 := fun e => hls (cmpW_zero (hv.trans e))
  have hd0 : (v == 0) = false := by simpa using hv0
  have hd1 : decide (v = 0) = false := by simpa using hv0
  have v0 := BelowBy.cell (a := ⟨bs, 0, none⟩) (by show bs < _; rw [hs]; omega) s0
  have v1 := BelowBy.cell (a := ⟨bs, 1, none⟩) (by show bs < _; rw [hs]; omega) s1
  have v2 := BelowBy.cell (a := ⟨N, 0, none⟩) (by show N < _; rw [hs]; omega) x0
  have v3 := BelowBy.cell (a := ⟨N, 1, none⟩) (by show N < _; rw [hs]; omega) x1
  simp only [add_off] at l0 l1
  have v4 := BelowBy.cell (a := ⟨g, k * 2, none⟩) (by rw [hs]; show g < _; omega) l0
  have v5 := BelowBy.cell (a := ⟨g, k * 2 + 1, none⟩) (by rw [hs]; show g < _; omega) l1
  clear hrow hbx hs h hbw hv l0 l1
  go_enter Tryz.func67, Tryz.ntmps67
  go_wp2_with fail
  try rw [hN]
  generalize (w.alloc (.cells #[.int .i64 x.c, .string x.s] TI)) = V at *
  refine wp_region_below hmx (by kernel_rfl) ?_
  repeat (((with_reducible refine wpQuiet_step (fun K hK => ?_)); go_simp; first | ((with_reducible refine hK _ ?_); clear hK K) | (refine (if_neg (by decide)).mpr ?_; (with_reducible refine hK _ ?_); clear hK K) | (apply Exists.intro; (with_reducible refine ⟨fun _ => ?_, hK _ ?_⟩); (go_at_call 39; exact Calls.bel (HC.out _)); clear hK K)))
  with_reducible refine wpQuiet_nil ?_
  rintro W ⟨⟨W, hW⟩, rfl⟩
  have y0 := (hW.cell (p := ⟨bs, 0, none⟩) (by show bs < _; rw [HS.out]; omega)).trans s0
  have y1 := (hW.cell (p := ⟨N, 0, none⟩) (by show N < _; rw [HS.out]; omega)).trans x0
  have y2 := (hW.cell (p := ⟨N, 1, none⟩) (by show N < _; rw [HS.out]; omega)).trans x1
  have hrW : W.ownsRow base TI 2 (.slice (some ⟨g, 0, none⟩) (k + 1) cap) (k + 1) (termsV us) := by
    have := HR.out
    rw [← HLL.out, HUS.out] at this ⊢
    exact OwnT.below this hW
  have hbW : W.heap[bs]? = some (.cells #[.slice (some ⟨g, 0, none⟩) (k + 1) cap, CF] SrT (0, 0)) := (hW.block bs (by rw [HS.out]; omega)).trans HBX.out
  have hsz : N + 1 ≤ W.heap.size := by rw [← HS.out]; exact hW.size
  have HBB : Hid (BelowBut bs base w W) := Lib.hid ((BelowBut.of bs (HBW.out.mono hbase)).trans (BelowBut.of bs (hW.mono (by rw [HS.out]; omega))))
  change Exit.then _ _ _ _ W
  clear s0 s1 x0 x1 v0 v1 v2 v3 v4 v5 hW HR HBX HS HBW
  have HRW := Lib.hid hrW
  have HBXW := Lib.hid hbW
  have hf := bs_frozen hbW
  clear hrW hbW
  have hbs2 : bs < W.heap.size := by omega
  have hne : some bs ≠ (Value.slice (some ⟨g, 0, none⟩) (k + 1) cap).ownBlock := fun e => by have := (hblk bs e.symm).1; omega
  have hneN : some N ≠ (Value.slice (some ⟨g, 0, none⟩) (k + 1) cap).ownBlock := fun e => by have := (hblk N e.symm).2; omega
  have hNlt : N < W.heap.size := by omega
  clear hblk
  go_wp2_with fail
  have hwr : W.drew.heap.size = W.heap.size := rfl
  go_region_law
    ((refine step_append_lies _ (by rfl) _ _ _ (by rfl) base TI i0 _ 2 24 Tryz.underlying33 hi hz0 hz1 hz2 rfl (by omega) (.slice (some ⟨g, 0, none⟩) (k + 1) cap) (k + 1) (termsV us) (by rfl) ((HRW.out.alloc _).drew)
        ⟨W.heap.size, 0, none⟩ 1 1 [.int .i64 x.c, .string x.s] (by rfl) (by rfl) (World.news_of_block (cs := #[.int .i64 x.c, .string x.s]) (t := TI) (fr := (0, 0)) (heap_alloc_new W _)) (by simp [Value.oneCell'])
        (by omega) (by unfold maxLen; omega) (by omega) (by simp; omega) (W.heap.size + 1) (by simp) ?_; intro gg cap1 w1 hown1 hgrow hat hlt; have hf1 : w1.frozen? ⟨bs, 0, none⟩ = false := (hgrow.frozen_far _ (by simp; omega) hne).trans (frozen_past hf hbs2 _); have hc1 : w1.cell? ⟨bs, 0, none⟩ = some (.slice (some ⟨g, 0, none⟩) (k + 1) cap) := (hgrow.cell_far _ (by simp; omega) hne).trans (cell_past (cell_drawn y0) _)))
  all_goals
    obtain ⟨d1, d2⟩ := push_done (us := us ++ [x]) HBXW.out hbs (by omega) HRW.out hown1 (by rw [List.length_append, ← HUS.out, HLL.out]; rfl) (by rw [termsV_append]; rfl) hgrow
    exact bodyPost_end (results_none rfl _ _ _) rfl ⟨rfl, d1, HBB.out.trans d2⟩

end Go.Proofs.YtfhlceggihodeaaGreat

/- The contract of the program's 'push'. -/

namespace Go.Proofs.YtfhlceggihodeaaGreat
open Go.RowKit Go.Shelf

theorem set_last (pre : List Tm) (l : Tm) (c : Int) (k : Nat) (hk : pre.length = k) :
    ((termsV (pre ++ [l])).set (k * 2) (.int .i64 c)).set (k * 2 + 1) (.string l.s) = termsV (pre ++ [⟨c, l.s⟩]) := by
  have hl := termsV_len pre
  rw [hk] at hl
  rw [termsV_append, termsV_append, List.set_append_right _ _ (by omega), List.set_append_right _ _ (by omega), hl, Nat.sub_self, show k * 2 + 1 - k * 2 = 1 by omega]
  rfl
/-- What the join that is stored leaves. -/
theorem join_done {base bs g k cap : Nat} {w W w2 : World} {pre us : List Tm} {l : Tm} {c : Int} (HBB : BelowBut bs base w W) (hb2 : Below W.drew.heap.size W.drew w2)
    (hbx : W.heap[bs]? = some (.cells #[.slice (some ⟨g, 0, none⟩) (k + 1) cap, CF] SrT (0, 0))) (hrow : W.ownsRow base TI 2 (.slice (some ⟨g, 0, none⟩) (k + 1) cap) (k + 1) (termsV us))
    (hus : pre ++ [l] = us) (hk : pre.length = k) (hbs : bs < base) (hgb : base ≤ g) (hbase : base ≤ W.heap.size) :
    HoldS base bs (pre ++ [⟨c, l.s⟩]) ((w2.setCell ⟨g, k * 2, none⟩ (.int .i64 c)).setCell ⟨g, k * 2 + 1, none⟩ (.string l.s)) ∧
      BelowBut bs base w ((w2.setCell ⟨g, k * 2, none⟩ (.int .i64 c)).setCell ⟨g, k * 2 + 1, none⟩ (.string l.s)) := by
  subst hus
  have hB : Below W.heap.size W w2 := (Below.refl _ W).drew.trans hb2
  have hll : (pre ++ [l]).length = k + 1 := by rw [List.length_append, hk]; rfl
  have hr2 : w2.ownsRow base TI 2 (.slice (some ⟨g, 0, none⟩) (k + 1) cap) (k + 1) (termsV (pre ++ [l])) := by
    rw [← hll] at hrow ⊢
    exact OwnT.below hrow hB
  have hst := ((hr2.stored (k * 2) (.int .i64 c)).1.stored (k * 2 + 1) (.string l.s)).1
  rw [set_last pre l c k hk] at hst
  have hb3 : Below base W ((w2.setCell ⟨g, k * 2, none⟩ (.int .i64 c)).setCell ⟨g, k * 2 + 1, none⟩ (.string l.s)) :=
    ((hB.mono hbase).setCell (p := ⟨g, k * 2, none⟩) hgb _).setCell (p := ⟨g, k * 2 + 1, none⟩) hgb _
  have hl2 : (pre ++ [(⟨c, l.s⟩ : Tm)]).length = k + 1 := by rw [List.length_append, hk]; rfl
  exact ⟨⟨_, (hb3.block bs hbs).trans hbx, by rw [hl2]; exact hst⟩, HBB.trans (BelowBut.of bs hb3)⟩

set_option maxRecDepth 100000 in
set_option maxHeartbeats 4000000 in
theorem push_join (base bs : Nat) (pre : List Tm) (l x : Tm) (w : World) (h : HoldS base bs (pre ++ [l]) w) (hls : l.s = x.s) (hsum : -9223372036854775808 ≤ l.c + x.c ∧ l.c + x.c ≤ 9223372036854775807) (hlen : pre.length ≤ 1000000) (hbs : bs < base) (hbase : base ≤ w.heap.size) :
    Calls Tryz.prog 67 #[.pointer (some ⟨bs, 0, none⟩), .agg #[.int .i64 x.c, .string x.s], .func (.func 48) #[] #[]] w fun e w' =>
      e = .returned (.tuple #[]) ∧ HoldS base bs (pre ++ [⟨l.c + x.c, l.s⟩]) w' ∧ BelowBut bs base w w' := by
  have hmx : Tryz.prog.follows .mixedOrders = true := by kernel_rfl
  obtain ⟨i0, hi, hz0, hz1, hz2⟩ := info_parts infoTerm
  obtain ⟨v, s0, s1, x0, x1, hrow, hbx, hblk⟩ := push_cells h hbs hbase x
  obtain ⟨g, cap, rfl⟩ : ∃ g cap, v = .slice (some ⟨g, 0, none⟩) (pre ++ [l]).length cap := by
    rcases hrow.2 with ⟨rfl, h0⟩ | ⟨g, cap, cur, rfl, _⟩
    · rw [List.length_append] at h0; simp at h0
    · exact ⟨_, _, rfl⟩
  have hta := termsAt_of_owns rfl hrow
  obtain ⟨hgb, hgN⟩ := hblk g rfl
  obtain ⟨l0, l1⟩ := hta.2 pre.length (by rw [List.length_append]; exact Nat.lt_succ_self _)
  rw [List.getElem_append_right (Nat.le_refl _)] at l0 l1
  simp only [Nat.sub_self, List.getElem_cons_zero] at l0 l1
  rw [addr_next] at l1
  obtain ⟨k, hk⟩ : ∃ k, pre.length = k := ⟨_, rfl⟩
  have hll : (pre ++ [l]).length = k + 1 := by rw [List.length_append, hk]; rfl
  have hw1 : IntKind.i64.wrap (((k + 1 : Nat) : Int) - 1) = (k : Int) := by rw [IntWalk.i64_in _ (by omega)]; omega
  have hw2 : IntKind.i64.wrap ((k : Int) + 1 - 1) = (k : Int) := by rw [IntWalk.i64_in _ (by omega)]; omega
  rw [hk] at l0 l1 hlen
  rw [hll] at hrow s0 hbx hblk
  obtain ⟨us, hus⟩ : ∃ us, pre ++ [l] = us := ⟨_, rfl⟩
  rw [hus] at hrow
  have HLL := Lib.hid hll
  have HUS := Lib.hid hus
  have HK := Lib.hid hk
  clear hll hus hta hk
  obtain ⟨N, hN⟩ : ∃ N, w.heap.size = N := ⟨_, rfl⟩
  have hs : (w.alloc (.cells #[.int .i64 x.c, .string x.s] TI)).heap.size = N + 1 := by simp [hN]
  have hbw : Below w.heap.size w (w.alloc (.cells #[.int .i64 x.c, .string x.s] TI)) := (Below.refl _ _).alloc (Nat.le_refl _) _
  rw [hN] at x0 x1 hbase hbw
  have HR := Lib.hid hrow
  have HBX := Lib.hid hbx
  have HS := Lib.hid hs
  have HBW := Lib.hid hbw
  have HN := Lib.hid hN
  have HC : Hid (∀ W : World, Calls Tryz.prog 39 #[.agg #[.int .i64 l.c, .string l.s], .agg #[.int .i64 x.c, .string x.s]] W fun e w' => e = .returned (.int .i64 0) ∧ Below W.heap.size W w') := Lib.hid (fun W => by
    have hv0 : cmpW l.s x.s = 0 := by rw [hls]; exact cmpW_self _
    rw [← hv0]
    exact (compareTerms_any l x W).mono fun _ _ ⟨h1, h2⟩ => ⟨h1, h2.below⟩)
  have HLS := Lib.hid hls
  have HSUM := Lib.hid hsum
  have hk0 : (0 : Int) ≤ (k : Int) := Int.natCast_nonneg _
  have hk1 : (k : Int) < (k : Int) + 1 := by omega
  have hk2 : (k : Int) < ((k + 1 : Nat) : Int) := by omega
  have v0 := BelowBy.cell (a := ⟨bs, 0, none⟩) (by show bs < _; rw [hs]; omega) s0
  have v1 := BelowBy.cell (a := ⟨bs, 1, none⟩) (by show bs < _; rw [hs]; omega) s1
  have v2 := BelowBy.cell (a := ⟨N, 0, none⟩) (by show N < _; rw [hs]; omega) x0
  have v3 := BelowBy.cell (a := ⟨N, 1, none⟩) (by show N < _; rw [hs]; omega) x1
  simp only [add_off] at l0 l1
  have v4 := BelowBy.cell (a := ⟨g, k * 2, none⟩) (by rw [hs]; show g < _; omega) l0
  have v5 := BelowBy.cell (a := ⟨g, k * 2 + 1, none⟩) (by rw [hs]; show g < _; omega) l1
  clear hrow hbx hs h hbw hls hsum
  go_enter Tryz.func67, Tryz.ntmps67
  go_wp2_with fail
  try rw [hN]
  generalize (w.alloc (.cells #[.int .i64 x.c, .string x.s] TI)) = V at *
  refine wp_region_below hmx (by kernel_rfl) ?_
  repeat (((with_reducible refine wpQuiet_step (fun K hK => ?_)); go_simp; first | ((with_reducible refine hK _ ?_); clear hK K) | (refine (if_neg (by decide)).mpr ?_; (with_reducible refine hK _ ?_); clear hK K) | (apply Exists.intro; (with_reducible refine ⟨fun _ => ?_, hK _ ?_⟩); (go_at_call 39; exact Calls.bel (HC.out _)); clear hK K)))
  with_reducible refine wpQuiet_nil ?_
  rintro W ⟨⟨W, hW⟩, rfl⟩
  have y0 := (hW.cell (p := ⟨bs, 0, none⟩) (by show bs < _; rw [HS.out]; omega)).trans s0
  have y1 := (hW.cell (p := ⟨N, 0, none⟩) (by show N < _; rw [HS.out]; omega)).trans x0
  have y2 := (hW.cell (p := ⟨N, 1, none⟩) (by show N < _; rw [HS.out]; omega)).trans x1
  have hrW : W.ownsRow base TI 2 (.slice (some ⟨g, 0, none⟩) (k + 1) cap) (k + 1) (termsV us) := by
    have := HR.out
    rw [← HLL.out, HUS.out] at this ⊢
    exact OwnT.below this hW
  have hbW : W.heap[bs]? = some (.cells #[.slice (some ⟨g, 0, none⟩) (k + 1) cap, CF] SrT (0, 0)) := (hW.block bs (by rw [HS.out]; omega)).trans HBX.out
  have hsz : N + 1 ≤ W.heap.size := by rw [← HS.out]; exact hW.size
  have HBB : Hid (BelowBut bs base w W) := Lib.hid ((BelowBut.of bs (HBW.out.mono hbase)).trans (BelowBut.of bs (hW.mono (by rw [HS.out]; omega))))
  change Exit.then _ _ _ _ W
  have y3 := (hW.cell (p := ⟨g, k * 2, none⟩) (by show g < _; rw [HS.out]; omega)).trans l0
  have y4 := (hW.cell (p := ⟨g, k * 2 + 1, none⟩) (by show g < _; rw [HS.out]; omega)).trans l1
  clear s0 s1 x0 x1 l0 l1 v0 v1 v2 v3 v4 v5 hW HR HBX HS HBW
  have HRW := Lib.hid hrW
  have HBXW := Lib.hid hbW
  have hf3 : W.frozen? ⟨g, k * 2, none⟩ = false := hrW.frozenAt (k * 2)
  have hf4 : W.frozen? ⟨g, k * 2 + 1, none⟩ = false := hrW.frozenAt (k * 2 + 1)
  clear hrW hbW
  have hbs2 : bs < W.heap.size := by omega
  have hg2 : g < W.heap.size := by omega
  clear hblk
  go_wp2_with fail
  go_region_with ((go_at_call 48; refine (joinTerms_any l x _ HSUM.out).mono ?_; rintro e w2 ⟨rfl, hb2⟩; have z0 := (hb2.cell (p := ⟨bs, 0, none⟩) hbs2).trans y0; have z3 := (hb2.cell (p := ⟨g, k * 2, none⟩) hg2).trans y3; have z4 := (hb2.cell (p := ⟨g, k * 2 + 1, none⟩) hg2).trans y4; have f3 := (hb2.frozen (p := ⟨g, k * 2, none⟩) hg2).trans hf3; have f4 := (hb2.frozen (p := ⟨g, k * 2 + 1, none⟩) hg2).trans hf4))
  all_goals
    go_wp2
    exact bodyPost_ret (results_none rfl _ _ _) rfl ⟨rfl, join_done HBB.out hb2 HBXW.out HRW.out HUS.out HK.out hbs hgb (by omega)⟩

end Go.Proofs.YtfhlceggihodeaaGreat

/- The contracts of the program's 'push' (all ways in one) and 'gathered'. -/

namespace Go.Proofs.YtfhlceggihodeaaGreat
open Go.RowKit Go.Shelf

theorem push_any (base bs : Nat) (acc : List Tm) (x : Tm) (w : World) (h : HoldS base bs acc w) (hbs : bs < base) (hbase : base ≤ w.heap.size) (hlen : acc.length ≤ 1000000)
    (hsum : ∀ l, acc.getLast? = some l → -9223372036854775808 ≤ l.c + x.c ∧ l.c + x.c ≤ 9223372036854775807) :
    Calls Tryz.prog 67 #[.pointer (some ⟨bs, 0, none⟩), .agg #[.int .i64 x.c, .string x.s], .func (.func 48) #[] #[]] w fun e w' =>
      e = .returned (.tuple #[]) ∧ HoldS base bs (pushT acc x) w' ∧ BelowBut bs base w w' := by
  rcases List.eq_nil_or_concat acc with rfl | ⟨pre, l, rfl⟩
  · exact push_empty base bs x w h hbs hbase
  · rw [List.concat_eq_append] at *
    have hp : pre.length ≤ 1000000 := by rw [List.length_append] at hlen; omega
    by_cases hls : l.s = x.s
    · rw [push_last, if_pos hls]
      exact push_join base bs pre l x w h hls (hsum l (by simp)) hp hbs hbase
    · rw [push_last, if_neg hls]
      exact push_more base bs pre l x w h hls hp hbs hbase

theorem push_len (acc : List Tm) (t : Tm) : (pushT acc t).length ≤ acc.length + 1 := by
  rcases List.eq_nil_or_concat acc with rfl | ⟨b, l, rfl⟩
  · rw [push_nil]; simp
  · rw [List.concat_eq_append, push_last]; split <;> simp
theorem push_bnd {acc : List Tm} {t : Tm} {B C : Int} (h : ∀ u ∈ acc, -B ≤ u.c ∧ u.c ≤ B) (ht : -C ≤ t.c ∧ t.c ≤ C) (hB : 0 ≤ B) (hC : 0 ≤ C) : ∀ u ∈ pushT acc t, -(B + C) ≤ u.c ∧ u.c ≤ B + C := by
  intro u hu
  rcases List.eq_nil_or_concat acc with rfl | ⟨b, l, rfl⟩
  · rw [push_nil] at hu; rw [List.mem_singleton.1 hu]; omega
  · rw [List.concat_eq_append] at *
    rw [push_last] at hu
    have hl := h l (by simp)
    split at hu
    · rcases List.mem_append.1 hu with hu | hu
      · have := h u (by simp [hu]); omega
      · rw [List.mem_singleton.1 hu]; show -(B + C) ≤ l.c + t.c ∧ l.c + t.c ≤ B + C; omega
    · rcases List.mem_append.1 hu with hu | hu
      · have := h u hu; omega
      · rw [List.mem_singleton.1 hu]; omega
theorem merge_take {ts : List Tm} {k : Nat} (hk : k < ts.length) : mergeT (ts.take (k + 1)) = pushT (mergeT (ts.take k)) ts[k] := by
  unfold mergeT
  rw [List.take_add_one, List.getElem?_eq_getElem hk, List.foldl_append]
  rfl
theorem merge_len (ts : List Tm) : ∀ k, (mergeT (ts.take k)).length ≤ k
  | 0 => by simp [mergeT]
  | k + 1 => by
    by_cases hk : k < ts.length
    · rw [merge_take hk]
      have := push_len (mergeT (ts.take k)) ts[k]
      have := merge_len ts k
      omega
    · have := merge_len ts k
      rw [List.take_of_length_le (by omega)] at this ⊢
      omega
theorem merge_bnd {ts : List Tm} {C : Int} (hC : 0 ≤ C) (h : ∀ u ∈ ts, -C ≤ u.c ∧ u.c ≤ C) : ∀ k : Nat, ∀ u ∈ mergeT (ts.take k), -(C * k) ≤ u.c ∧ u.c ≤ C * k
  | 0, u, hu => by simp [mergeT] at hu
  | k + 1, u, hu => by
    have e : C * ((k + 1 : Nat) : Int) = C * k + C := by rw [Int.natCast_add, Int.mul_add]; simp
    have hk0 : 0 ≤ C * (k : Int) := Int.mul_nonneg hC (Int.natCast_nonneg _)
    rw [e]
    by_cases hk : k < ts.length
    · rw [merge_take hk] at hu
      exact push_bnd (merge_bnd hC h k) (h _ (List.getElem_mem hk)) hk0 hC u hu
    · rw [List.take_of_length_le (by omega)] at hu
      have := merge_bnd hC h k u (by rw [List.take_of_length_le (by omega)]; exact hu)
      omega
theorem merge_all (ts : List Tm) : mergeT (ts.take ts.length) = mergeT ts := by rw [List.take_of_length_le (Nat.le_refl _)]

theorem HoldS.alloc {base bs : Nat} {acc : List Tm} {w : World} (h : HoldS base bs acc w) (hb : bs < w.heap.size) (o : Obj) : HoldS base bs acc (w.alloc o) := by
  obtain ⟨v, h1, h2⟩ := h
  exact ⟨v, (Below.heap_alloc _ _ _ hb).trans h1, h2.alloc _⟩
theorem smallT_perm {ss ts : List Tm} (hp : ss.Perm ts) (hl : ts.length ≤ maxLen) (h : ∀ t ∈ ts, t.s.size ≤ maxLen ∧ -9223372036854775808 ≤ t.c ∧ t.c ≤ 9223372036854775807) : SmallT ss :=
  ⟨by rw [hp.length_eq]; exact hl, fun t ht => h t (hp.mem_iff.1 ht)⟩

set_option maxRecDepth 100000 in
set_option maxHeartbeats 2000000 in
/-- The program's 'gathered' at terms. -/
theorem gathered_any (a : Option Addr) (cap n : Nat) (ts : List Tm) (w : World) (hs : IsTerms w a n ts) (hn : n ≤ 100000) (hc : ∀ t ∈ ts, -1000000000000 ≤ t.c ∧ t.c ≤ 1000000000000) :
    Calls Tryz.prog 47 #[.slice a n cap, CF, .func (.func 48) #[] #[]] w fun e w' =>
      (∃ v, e = .returned (.agg #[v, CF]) ∧ ∃ ss : List Tm, ss.Perm ts ∧ ss.Pairwise (fun a b => lessW b.s a.s = false) ∧ OwnT w.heap.size w' v (mergeT ss)) ∧ Below w.heap.size w w' := by
  have HS := Lib.hid hs
  have HC := Lib.hid hc
  clear hs hc
  go_enter Tryz.func47, Tryz.ntmps47
  go_wp2_with fail
  refine (valuesT_any a n cap _).mono ?_
  rintro e w2 ⟨rfl, rfl⟩
  obtain ⟨N, hN⟩ : ∃ N, w.heap.size = N := ⟨_, rfl⟩
  have q0 : ((((w.alloc (.cells #[.slice none 0 0, .nilFunc] SrT)).alloc (.cells #[.slice none 0 0, CF] SrT)).alloc (.cells #[.slice a n cap] ST))).heap[N]? = some (.cells #[.slice none 0 0, .nilFunc] SrT (0, 0)) := by
    rw [← hN, Below.heap_alloc _ _ _ (by simp; omega), Below.heap_alloc _ _ _ (by simp)]
    exact World.alloc_heap_new _ _
  have q1 : ((((w.alloc (.cells #[.slice none 0 0, .nilFunc] SrT)).alloc (.cells #[.slice none 0 0, CF] SrT)).alloc (.cells #[.slice a n cap] ST))).heap[N + 1]? = some (.cells #[.slice none 0 0, CF] SrT (0, 0)) := by
    rw [← hN, Below.heap_alloc _ _ _ (by simp)]
    have := World.alloc_heap_new (w.alloc (.cells #[.slice none 0 0, .nilFunc] SrT)) (.cells #[.slice none 0 0, CF] SrT)
    simpa using this
  have q2 : ((((w.alloc (.cells #[.slice none 0 0, .nilFunc] SrT)).alloc (.cells #[.slice none 0 0, CF] SrT)).alloc (.cells #[.slice a n cap] ST))).cell? ⟨N + 2, 0, none⟩ = some (.slice a n cap) := by
    have := World.alloc_heap_new ((w.alloc (.cells #[.slice none 0 0, .nilFunc] SrT)).alloc (.cells #[.slice none 0 0, CF] SrT)) (.cells #[.slice a n cap] ST)
    simp only [World.size_alloc, hN] at this
    unfold World.cell?
    rw [show N + 2 = N + 1 + 1 from rfl, this]
    rfl
  have hsz : ((((w.alloc (.cells #[.slice none 0 0, .nilFunc] SrT)).alloc (.cells #[.slice none 0 0, CF] SrT)).alloc (.cells #[.slice a n cap] ST))).heap.size = N + 3 := by simp [hN]
  have hbV : Below w.heap.size w ((((w.alloc (.cells #[.slice none 0 0, .nilFunc] SrT)).alloc (.cells #[.slice none 0 0, CF] SrT)).alloc (.cells #[.slice a n cap] ST))) := (((Below.refl _ _).alloc (Nat.le_refl _) _).alloc (by simp) _).alloc (by simp; omega) _
  simp only [World.size_alloc, hN]
  generalize ((((w.alloc (.cells #[.slice none 0 0, .nilFunc] SrT)).alloc (.cells #[.slice none 0 0, CF] SrT)).alloc (.cells #[.slice a n cap] ST))) = V at *
  have HS2 : Hid (0 < n → ∃ x, a = some x ∧ TermsAt V x ts) := Lib.hid (HS.out.below hbV).at_
  have HQ0 := Lib.hid q0
  have HQ1 := Lib.hid q1
  have HQ2 := Lib.hid q2
  have HSZ := Lib.hid hsz
  have HBV := Lib.hid hbV
  have HN := Lib.hid hN
  clear q0 q1 q2 hsz hbV hN
  go_wp2_with fail
  refine (sortedFunc_any (N + 1 + 1) ts a cap n V HS.out.len (by omega) (by rw [HSZ.out]; omega) HQ2.out HS2.out).mono ?_
  rintro e w3 ⟨⟨v3, rfl, ss, hp, hso, ho⟩, hb3⟩
  have hsl : ss.length = n := hp.length_eq.trans HS.out.len
  have hsm : SmallT ss := smallT_perm hp (by rw [HS.out.len]; exact HS.out.max) HS.out.small
  have hoT : OwnT V.heap.size w3 v3 ss := by unfold OwnT; rw [hsl]; exact ho
  obtain ⟨a3, cap3, rfl, hI⟩ := hoT.isTerms hsm
  have hlow : ∀ j, (Value.slice a3 ss.length cap3).ownBlock = some j → V.heap.size ≤ j := ownLow hoT
  have hcs : ∀ t ∈ ss, -1000000000000 ≤ t.c ∧ t.c ≤ 1000000000000 := fun t ht => HC.out t (hp.mem_iff.1 ht)
  have hfar : ∀ x, a3 = some x → N + 3 ≤ x.block := by
    intro x ex
    rcases ho.2 with ⟨e0, _⟩ | ⟨g1, cap1, cur1, e0, hg1, _⟩
    · simp only [Value.slice.injEq] at e0
      rw [e0.1] at ex; cases ex
    · simp only [Value.slice.injEq] at e0
      rw [e0.1] at ex
      cases ex
      rw [← HSZ.out]; exact hg1
  rw [hsl]
  have hs3 : N + 3 ≤ w3.heap.size := by rw [← HSZ.out]; exact hb3.size
  have q1 : w3.heap[N + 1]? = some (.cells #[.slice none 0 0, CF] SrT (0, 0)) := (hb3.block (N + 1) (by rw [HSZ.out]; omega)).trans HQ1.out
  have q0 : w3.heap[N]? = some (.cells #[.slice none 0 0, .nilFunc] SrT (0, 0)) := (hb3.block N (by rw [HSZ.out]; omega)).trans HQ0.out
  obtain ⟨base, hbase⟩ : ∃ base, w3.heap.size = base := ⟨_, rfl⟩
  have h0 : HoldS base (N + 1) (mergeT (ss.take 0)) w3 := ⟨_, q1, ⟨rfl, .inl ⟨rfl, rfl⟩⟩⟩
  have HP := Lib.hid hp
  have HSO := Lib.hid hso
  have HSL := Lib.hid hsl
  have HI := Lib.hid hI
  have HCS := Lib.hid hcs
  have HFAR := Lib.hid hfar
  have HB3 := Lib.hid (HBV.out.trans (hb3.mono (by rw [HSZ.out, HN.out]; omega)))
  have HBASE := Lib.hid hbase
  have HQ0' := Lib.hid q0
  clear hp hso ho hsl hsm hoT hI hlow hcs hfar hb3 q1 q0 HQ0 HQ1 HQ2 HBV HS2
  rw [hbase] at hs3
  clear hbase
  go_wp2_with fail
  go_loopw [17] (fun i wr => ∃ k : Nat, k ≤ n ∧ i = .int .i64 k ∧ Hid (HoldS base (N + 1) (mergeT (ss.take k)) wr) ∧ Hid (BelowBut (N + 1) base w3 wr)) (fun i _ => n - (intOf i).toNat)
  case atStart => exact ⟨0, Nat.zero_le _, rfl, Lib.hid h0, Lib.hid (BelowBut.refl _ _ _)⟩
  case round =>
    obtain ⟨k, hk, rfl, HH, HB⟩ := hrel
    by_cases hlt : k < n
    · have hkz : k < ss.length := by rw [HSL.out]; exact hlt
      obtain ⟨x, rfl, hx⟩ := HI.out.at_ (by rw [HSL.out]; omega)
      obtain ⟨t, ht⟩ : ∃ t, ss[k] = t := ⟨_, rfl⟩
      have hxf := HFAR.out x rfl
      have hxb := hx.1
      rw [HBASE.out] at hxb
      have hblk : wr.heap[x.block]? = w3.heap[x.block]? := HB.out.block x.block hxb (by omega)
      have hc := hx.2 k hkz
      rw [ht, addr_next] at hc
      obtain ⟨hc0, hc1⟩ := hc
      have c0 : wr.cell? (x.add (k * 2)) = some (.int .i64 t.c) := (World.cell?_of_block (w := w3) (by rw [addr_add_block]; exact hblk)).trans hc0
      have c1 : wr.cell? ⟨(x.add (k * 2)).block, (x.add (k * 2)).off + 1, none⟩ = some (.string t.s) := (World.cell?_of_block (w := w3) (a := ⟨(x.add (k * 2)).block, (x.add (k * 2)).off + 1, none⟩) (by show wr.heap[(x.add (k * 2)).block]? = _; rw [addr_add_block]; exact hblk)).trans hc1
      have HT := Lib.hid ht
      have hbw : base ≤ wr.heap.size := by rw [← HBASE.out]; exact HB.out.size
      have hsum : ∀ l, (mergeT (ss.take k)).getLast? = some l → -9223372036854775808 ≤ l.c + t.c ∧ l.c + t.c ≤ 9223372036854775807 := by
        intro l hl
        have h1 := merge_bnd (C := 1000000000000) (by omega) HCS.out k l (List.mem_of_getLast? hl)
        have h2 := HCS.out ss[k] (List.getElem_mem hkz)
        rw [ht] at h2
        omega
      have hml := merge_len ss k
      have hmt := merge_take hkz
      rw [ht] at hmt
      have HMT := Lib.hid hmt
      have hpush := push_any base (N + 1) (mergeT (ss.take k)) t (wr.alloc (.cells #[.int .i64 t.c, .string t.s] TI)) (HH.out.alloc (by omega) _) (by omega) (by simp; omega) (by omega) hsum
      have HPU := Lib.hid hpush
      clear ht hx hc0 hc1 hblk h0 hsum hml hmt hpush
      go_wp2_with fail
      refine HPU.out.mono ?_
      rintro e w4 ⟨rfl, hh4, hb4⟩
      have HH4 := Lib.hid hh4
      have HB4 := Lib.hid (HB.out.trans ((BelowBut.of (N + 1) ((Below.refl base wr).alloc hbw _)).trans hb4))
      clear hh4 hb4
      go_wp2
      go_roundw
      case rel => exact ⟨k + 1, by omega, by go_num, Lib.hid (by rw [HMT.out]; exact HH4.out), HB4⟩
      case measure => simp [intOf]; omega
    · obtain rfl : k = n := by omega
      clear h0
      obtain ⟨v, hbx, hrow⟩ := HH.out
      obtain ⟨av, mv, cv, rfl⟩ : ∃ a m c, v = .slice a m c := by
        rcases hrow.2 with ⟨rfl, _⟩ | ⟨g, cap, cur, rfl, _⟩
        · exact ⟨_, _, _, rfl⟩
        · exact ⟨_, _, _, rfl⟩
      have r0 : wr.cell? ⟨N + 1, 0, none⟩ = some (.slice av mv cv) := by simp [World.cell?, hbx]
      have r1 : wr.cell? ⟨N + 1, 1, none⟩ = some CF := by simp [World.cell?, hbx]
      have hq0 := (HB.out.block N (by omega) (by omega)).trans HQ0'.out
      have p0 : wr.cell? ⟨N, 0, none⟩ = some (.slice none 0 0) := by simp [World.cell?, hq0]
      have p1 : wr.cell? ⟨N, 1, none⟩ = some .nilFunc := by simp [World.cell?, hq0]
      have f0 : wr.frozen? ⟨N, 0, none⟩ = false := by simp [World.frozen?, hq0]
      have f1 : wr.frozen? ⟨N, 1, none⟩ = false := by simp [World.frozen?, hq0]
      have HROW := Lib.hid hrow
      clear hbx hrow hq0
      have hqN := (HB.out.block N (by omega) (by omega)).trans HQ0'.out
      have hqr : ((wr.setCell ⟨N, 0, none⟩ (.slice av mv cv)).setCell ⟨N, 1, none⟩ CF).heap[N]? = some (.cells #[.slice av mv cv, CF] SrT (0, 0)) := by
        simp [World.setCell, Array.getElem?_modify, hqN]
      have HQR := Lib.hid hqr
      clear hqN hqr
      go_wp2
      refine bodyPost_ret (results_cell_row rfl _ _ N SrT #[.slice av mv cv, CF] (0, 0) _ rfl HQR.out Tryz.underlying74 rfl (by kernel_rfl)) rfl ?_
      have hk : ss.take k = ss := List.take_of_length_le (by rw [HSL.out]; exact Nat.le_refl _)
      have hr := HROW.out
      rw [hk] at hr
      have hbb : Below w.heap.size w wr := HB3.out.trans ⟨HB.out.os, HB.out.tape, HB.out.output, HB.out.size, fun j hj => HB.out.block j (by rw [HN.out] at hj; omega) (by rw [HN.out] at hj; omega)⟩
      refine ⟨⟨_, rfl, ss, HP.out, HSO.out, ?_⟩, (hbb.setCell (p := ⟨N, 0, none⟩) (by show w.heap.size ≤ N; rw [HN.out]; exact Nat.le_refl _) _).setCell (p := ⟨N, 1, none⟩) (by show w.heap.size ≤ N; rw [HN.out]; exact Nat.le_refl _) _⟩
      exact ownsRow_base (ownsRow_setCell_below (ownsRow_setCell_below hr (by show N < base; omega) _) (by show N < base; omega) _) (by rw [HN.out]; omega)

end Go.Proofs.YtfhlceggihodeaaGreat

/- The contracts of the laws' own helpers that mark memory and look the marks up. -/

namespace Go.Proofs.YtfhlceggihodeaaGreat
open Go.RowKit Go.Shelf

/-- A term is stored: its two cells. -/
theorem set_terms (us : List Tm) (i : Nat) (t : Tm) (hi : i < us.length) : ((termsV us).set (i * 2) (.int .i64 t.c)).set (i * 2 + 1) (.string t.s) = termsV (us.set i t) := by
  have e : us = us.take i ++ us[i] :: us.drop (i + 1) := by rw [List.getElem_cons_drop]; exact (List.take_append_drop i us).symm
  have hl : (termsV (us.take i)).length = i * 2 := by rw [termsV_len, List.length_take, Nat.min_eq_left (by omega)]
  have hset : us.set i t = us.take i ++ t :: us.drop (i + 1) := by rw [List.set_eq_take_append_cons_drop, if_pos hi]
  rw [hset]
  have e2 : termsV us = termsV (us.take i) ++ .int .i64 us[i].c :: .string us[i].s :: termsV (us.drop (i + 1)) := by
    rw [← termsV_cons, ← termsV_append, ← e]
  rw [e2, termsV_append, termsV_cons, List.set_append_right _ _ (by omega), List.set_append_right _ _ (by omega), hl, Nat.sub_self, show i * 2 + 1 - i * 2 = 1 by omega]
  rfl

/-- The text of a mark. -/
def mkB (m : Nat) (t : ByteArray) : ByteArray :=
  if _h : m = 0 then t else mkB (m / 10) (⟨#[UInt8.ofNat (48 + m % 10)]⟩ ++ t)
termination_by m
decreasing_by omega
theorem mkB_zero (t : ByteArray) : mkB 0 t = t := by rw [mkB]; simp
theorem mkB_step {m : Nat} (h : m ≠ 0) (t : ByteArray) : mkB (m / 10) (⟨#[UInt8.ofNat (48 + m % 10)]⟩ ++ t) = mkB m t := by conv => rhs; rw [mkB, dif_neg h]
def mkS (k : Nat) : ByteArray := ⟨#[109]⟩ ++ mkB k ⟨#[]⟩

end Go.Proofs.YtfhlceggihodeaaGreat

/- The contract of slices.DeleteFunc at 'isZero'. -/

namespace Go.Proofs.YtfhlceggihodeaaGreat
open Go.RowKit Go.Shelf

/-- A shorter slice of the same row. -/
theorem ownsRow_shorter {w : World} {base : Nat} {e : TypeId} {size g n k cap : Nat} {xs : List Value} (h : w.ownsRow base e size (.slice (some ⟨g, 0, none⟩) n cap) n xs) (hk : k ≤ n) :
    w.ownsRow base e size (.slice (some ⟨g, 0, none⟩) k cap) k (xs.take (k * size)) := by
  have hks : k * size ≤ n * size := Nat.mul_le_mul_right _ hk
  rcases h.2 with ⟨h', _⟩ | ⟨g', cap', cur, h', hb, hg, hnc, hcm, hcs, htake⟩
  · simp at h'
  · simp only [Value.slice.injEq, Option.some.injEq, Addr.mk.injEq, and_true, true_and] at h'
    obtain ⟨rfl, rfl⟩ := h'
    refine ⟨by rw [List.length_take, h.1]; omega, .inr ⟨g, cap, cur, rfl, hb, hg, by omega, hcm, hcs, ?_⟩⟩
    rw [← htake, List.take_take, Nat.min_eq_left hks]
/-- Stores behind the first m cells. -/
theorem ownsRow_behind {base : Nat} {e : TypeId} {size g n cap m : Nat} : ∀ (vs : List Value) (o : Nat) {w : World} {xs : List Value}, w.ownsRow base e size (.slice (some ⟨g, 0, none⟩) n cap) n xs → m ≤ o →
    ∃ ys, (w.setCells g o vs).ownsRow base e size (.slice (some ⟨g, 0, none⟩) n cap) n ys ∧ ys.take m = xs.take m
  | [], _, _, xs, h, _ => ⟨xs, h, rfl⟩
  | v :: r, o, w, xs, h, hm => by
    obtain ⟨ys, h1, h2⟩ := ownsRow_behind (m := m) r (o + 1) (h.stored o v).1 (by omega)
    refine ⟨ys, h1, h2.trans ?_⟩
    rw [List.take_set, List.set_eq_of_length_le (by rw [List.length_take]; omega)]
theorem below_cells {B g : Nat} (hg : B ≤ g) : ∀ (vs : List Value) (o : Nat) {w0 w : World}, Below B w0 w → Below B w0 (w.setCells g o vs)
  | [], _, _, _, h => h
  | v :: r, o, _, _, h => below_cells hg r (o + 1) (h.setCell (p := ⟨g, o, none⟩) hg v)

/-- 'clear' at a slice of terms. -/
theorem clear_terms {P : Program} (w : World) (t : TypeId) (ht : P.underlying t = some (.slice TI)) (hv : ∀ w, (zeroValue TI).run P w = .ok (.agg #[.int .i64 0, .string ByteArray.empty]) w) (b o n c : Nat) (hn : 0 < n)
    (hc : ∀ j, j < n * 2 → (w.cell? ⟨b, o + j, none⟩).isSome = true) (hf : ∀ j, w.frozen? ⟨b, j, none⟩ = false) :
    ∃ vs, ∀ ty, (Builtin.clear_ #[t] ty #[.slice (some ⟨b, o, none⟩) n c]).run P w = .ok (.tuple #[]) (w.setCells b o vs) := by
  refine ⟨(Builtin.zeroCells #[.int .i64 0, .string ByteArray.empty] n).toList, fun ty => ?_⟩
  have hlen : (Builtin.zeroCells #[.int .i64 0, .string ByteArray.empty] n).toList.length = n * 2 := by simp [Builtin.zeroCells]
  have hst := run_storeCells_cells (P := P) b o (Builtin.zeroCells #[.int .i64 0, .string ByteArray.empty] n).toList 0 w (by rw [hlen]; simpa using hc) (fun j _ => hf _) (by
    intro u hu
    simp only [Builtin.zeroCells, Array.toList_map, List.mem_map] at hu
    obtain ⟨i, _, rfl⟩ := hu
    have h2 : i % 2 < 2 := Nat.mod_lt _ (by omega)
    rcases (by omega : i % 2 = 0 ∨ i % 2 = 1) with h | h
    · simp [h, Value.oneCell']
    · simp [h, Value.oneCell'])
  simp only [Nat.add_zero] at hst
  obtain ⟨m, rfl⟩ : ∃ m, n = m + 1 := ⟨n - 1, by omega⟩
  simp [Builtin.clear_, run_underlying ht, hv, Value.cells, hst]

abbrev nzT (ts : List Tm) : List Tm := ts.filter fun t => !(t.c == 0)
theorem nzT_all {ts : List Tm} (h : ∀ j (h : j < ts.length), ts[j].c ≠ 0) : nzT ts = ts := by
  refine List.filter_eq_self.2 fun t ht => ?_
  obtain ⟨j, hj, rfl⟩ := List.getElem_of_mem ht
  simpa using h j hj
theorem nzT_first {ts : List Tm} {i : Nat} (hi : i < ts.length) (h0 : ts[i].c = 0) (h : ∀ j (h : j < i), ts[j].c ≠ 0) : nzT (ts.take (i + 1)) = ts.take i := by
  rw [List.take_add_one, List.getElem?_eq_getElem hi]
  unfold nzT
  rw [List.filter_append]
  have h1 : (ts.take i).filter (fun t => !(t.c == 0)) = ts.take i := nzT_all fun j hj => by
    rw [List.length_take] at hj
    rw [List.getElem_take]
    exact h j (by omega)
  rw [h1]
  simp [h0]
theorem nzT_step {ts : List Tm} {j : Nat} {t : Tm} (hj : j < ts.length) (ht : ts[j] = t) : nzT (ts.take (j + 1)) = nzT (ts.take j) ++ (if t.c = 0 then [] else [t]) := by
  rw [List.take_add_one, List.getElem?_eq_getElem hj]
  unfold nzT
  rw [List.filter_append, ht]
  by_cases h : t.c = 0 <;> simp [h]
theorem nzT_len (ts : List Tm) (j : Nat) : (nzT (ts.take j)).length ≤ j := Nat.le_trans (List.length_filter_le _ _) (by rw [List.length_take]; omega)

/-- The terms kept so far, and the rest as it was. -/
structure Kept (base : Nat) (w : World) (g cap n i j : Nat) (ts us : List Tm) : Prop where
  own : w.ownsRow base TI 2 (.slice (some ⟨g, 0, none⟩) n cap) n (termsV us)
  len : us.length = n
  head : us.take i = nzT (ts.take j)
  tail : us.drop j = ts.drop j
  hi : i < j
  hj : j ≤ n
theorem Kept.below {base : Nat} {w w' : World} {g cap n i j : Nat} {ts us : List Tm} (h : Kept base w g cap n i j ts us) (hb : Below w.heap.size w w') : Kept base w' g cap n i j ts us :=
  ⟨by have := h.own; rw [← h.len] at this ⊢; exact OwnT.below this hb, h.len, h.head, h.tail, h.hi, h.hj⟩
theorem Kept.at_ {base : Nat} {w : World} {g cap n i j : Nat} {ts us : List Tm} (h : Kept base w g cap n i j ts us) (hjn : j < n) (hz : j < ts.length) :
    w.cell? ⟨g, j * 2, none⟩ = some (.int .i64 ts[j].c) ∧ w.cell? ⟨g, j * 2 + 1, none⟩ = some (.string ts[j].s) := by
  have hta := termsAt_of_owns (ts := us) (g := g) (cap := cap) rfl (by rw [h.len]; exact h.own)
  have hju : j < us.length := by rw [h.len]; exact hjn
  obtain ⟨h1, h2⟩ := hta.2 j hju
  have e : us[j] = ts[j] := by
    have := congrArg (·[0]?) h.tail
    simp only [List.getElem?_drop, Nat.add_zero, List.getElem?_eq_getElem hju, List.getElem?_eq_getElem hz] at this
    exact Option.some.inj this
  rw [e] at h1 h2
  rw [add_off] at h1 h2
  exact ⟨h1, h2⟩
theorem Kept.keep {base : Nat} {w : World} {g cap n i j : Nat} {ts us : List Tm} {t : Tm} (h : Kept base w g cap n i j ts us) (hz : j < ts.length) (hjn : j < n) (ht : ts[j] = t) (hc : t.c ≠ 0) :
    Kept base ((w.setCell ⟨g, i * 2, none⟩ (.int .i64 t.c)).setCell ⟨g, i * 2 + 1, none⟩ (.string t.s)) g cap n (i + 1) (j + 1) ts (us.set i t) := by
  have hiu : i < us.length := by rw [h.len]; have := h.hi; omega
  refine ⟨?_, by rw [List.length_set]; exact h.len, ?_, ?_, by have := h.hi; omega, by omega⟩
  · rw [← set_terms us i t hiu]
    exact ((h.own.stored (i * 2) (.int .i64 t.c)).1.stored (i * 2 + 1) (.string t.s)).1
  · rw [nzT_step hz ht, if_neg hc, ← h.head, List.take_add_one, List.getElem?_set_self hiu, List.take_set, List.set_eq_of_length_le (by rw [List.length_take]; omega)]
    rfl
  · have := congrArg (List.drop 1) h.tail
    rw [List.drop_drop, List.drop_drop] at this
    rw [List.drop_set, if_pos (by have := h.hi; omega)]
    exact this
theorem Kept.skip {base : Nat} {w : World} {g cap n i j : Nat} {ts us : List Tm} {t : Tm} (h : Kept base w g cap n i j ts us) (hz : j < ts.length) (hjn : j < n) (ht : ts[j] = t) (hc : t.c = 0) : Kept base w g cap n i (j + 1) ts us := by
  refine ⟨h.own, h.len, ?_, ?_, by have := h.hi; omega, by omega⟩
  · rw [nzT_step hz ht, if_pos hc, List.append_nil]; exact h.head
  · have := congrArg (List.drop 1) h.tail
    rw [List.drop_drop, List.drop_drop] at this
    exact this

set_option maxRecDepth 100000 in
set_option maxHeartbeats 2000000 in
theorem deleteZero_any (base : Nat) (v : Value) (ts : List Tm) (w : World) (h : OwnT base w v ts) (hsm : SmallT ts) (hbase : base ≤ w.heap.size) :
    Calls Tryz.prog 46 #[v, ZF] w fun e w' =>
      (∃ r, e = .returned r ∧ OwnT base w' r (nzT ts)) ∧ Below base w w' := by
  obtain ⟨a, cap, rfl, hI⟩ := h.isTerms hsm
  have hmax : ts.length ≤ maxLen := hsm.1
  unfold maxLen at hmax
  have HI := Lib.hid hI
  have HO := Lib.hid h
  obtain ⟨n, hn⟩ : ∃ n, ts.length = n := ⟨_, rfl⟩
  rw [hn] at hmax HI HO ⊢
  have HN := Lib.hid hn
  clear hI h hsm hn
  go_enter Tryz.func46, Tryz.ntmps46
  go_wp2_with fail
  refine (indexZero_any a cap n ts _ HI.out).mono ?_
  rintro e w2 ⟨⟨r, rfl, hr⟩, hb2⟩
  have HB2 := Lib.hid hb2
  rcases hr with ⟨rfl, hall⟩ | ⟨i, hi, rfl, hz, hbef⟩
  · have HA := Lib.hid hall
    clear hall hb2
    go_wp2
    go_ret
    refine ⟨⟨_, rfl, ?_⟩, HB2.out.mono hbase⟩
    rw [nzT_all HA.out]
    have := HO.out.below HB2.out
    exact this
  · have hin : i < n := by rw [← HN.out]; exact hi
    have hd : decide ((i : Int) = -1) = false := by simp
    obtain ⟨g, rfl, hg⟩ : ∃ g, a = some ⟨g, 0, none⟩ ∧ base ≤ g := by
      rcases HO.out.2 with ⟨_, e1⟩ | ⟨g, cap1, cur, e0, hg, _⟩
      · rw [HN.out] at e1; omega
      · simp only [Value.slice.injEq] at e0; exact ⟨g, e0.1, hg⟩
    have hok : (w2.ownsRow base TI 2 (.slice (some ⟨g, 0, none⟩) n cap) n (termsV ts)) := by
      have := HO.out.below HB2.out
      unfold OwnT at this
      rw [HN.out] at this
      exact this
    have hcap : n ≤ cap := (ownsRow_cap hok).1
    have hcm : cap ≤ 2 ^ 63 - 1 := (ownsRow_cap hok).2.1
    have hk0 : Kept base w2 g cap n i (i + 1) ts ts := ⟨hok, HN.out, (nzT_first hi hz hbef).symm, rfl, by omega, by omega⟩
    have HK0 := Lib.hid hk0
    have HBB := Lib.hid (HB2.out.mono hbase)
    clear hz hbef hb2 hok hk0 hi
    go_wp2_with fail
    go_loopw [5, 6] (fun p q wr => ∃ (i j : Nat) (us : List Tm), p = .int .i64 i ∧ q = .int .i64 j ∧ Hid (Kept base wr g cap n i j ts us) ∧ i < j ∧ j ≤ n ∧ Hid (Below base w wr)) (fun _ q _ => n - (intOf q).toNat)
    case atStart => exact ⟨i, i + 1, ts, rfl, by go_num, HK0, by omega, by omega, HBB⟩
    case round =>
      obtain ⟨i, j, us, rfl, rfl, HK, hij, hjn, HB⟩ := hrel
      by_cases hlt : j < n
      · have hjz : j < ts.length := by rw [HN.out]; exact hlt
        obtain ⟨t, ht⟩ : ∃ t, ts[j] = t := ⟨_, rfl⟩
        obtain ⟨c0, c1⟩ := HK.out.at_ hlt hjz
        rw [ht] at c0 c1
        have HT := Lib.hid ht
        have hgw : g < wr.heap.size := (ownsRow_cap HK.out.own).2.2.2
        have hbw : base ≤ wr.heap.size := by omega
        clear ht
        go_wp2_with fail
        refine (isZero_any t _).mono ?_
        rintro e w4 ⟨rfl, hg4⟩
        have hb4 := hg4.below
        have hbw4 : Below wr.heap.size wr w4 := ((Below.refl _ wr).alloc (Nat.le_refl _) _).trans (hb4.mono (by simp))
        have hK4 := HK.out.below hbw4
        have HB4 := Lib.hid (HB.out.trans (hbw4.mono hbw))
        have hxb : (wr.alloc (.cells #[.int .i64 t.c, .string t.s] TI)).heap[wr.heap.size]? = some (.cells #[.int .i64 t.c, .string t.s] TI (0, 0)) := World.alloc_heap_new _ _
        have hxb4 := (hb4.block wr.heap.size (by simp)).trans hxb
        have d0 : w4.cell? ⟨wr.heap.size, 0, none⟩ = some (.int .i64 t.c) := by unfold World.cell?; rw [hxb4]; rfl
        have d1 : w4.cell? ⟨wr.heap.size, 1, none⟩ = some (.string t.s) := by unfold World.cell?; rw [hxb4]; rfl
        have hlu : (termsV us).length = n * 2 := by rw [termsV_len, hK4.len]
        have hd0 : ∃ u, w4.cell? ⟨g, i * 2, none⟩ = some u := by rw [hK4.own.cellAt _ (by omega)]; exact ⟨_, List.getElem?_eq_getElem (by omega)⟩
        have hd1 : ∃ u, w4.cell? ⟨g, i * 2 + 1, none⟩ = some u := by rw [hK4.own.cellAt _ (by omega)]; exact ⟨_, List.getElem?_eq_getElem (by omega)⟩
        obtain ⟨u0, hu0⟩ := hd0
        obtain ⟨u1, hu1⟩ := hd1
        have hf0 := hK4.own.frozenAt (i * 2)
        have hf1 := hK4.own.frozenAt (i * 2 + 1)
        have hin2 : i < n := by omega
        have HK4 := Lib.hid hK4
        clear hg4 hb4 hbw4 hK4 hxb hxb4 hlu c0 c1
        by_cases hz : t.c = 0
        · have hzb : (t.c == 0) = true := by simpa using hz
          have HZ := Lib.hid hz
          clear hz
          go_wp2
          go_roundw
          case rel =>
            refine ⟨_, _, _, _, _, _, _, _, _, _, _, _, _, _, _, _, _, _, _, _, _, _, _, ?_, rfl⟩
            exact ⟨i, j + 1, us, rfl, by go_num, Lib.hid (HK4.out.skip hjz hlt HT.out HZ.out), by omega, by omega, HB4⟩
          case measure => simp [intOf]; omega
        · have hzb : (t.c == 0) = false := by simpa using hz
          have HZ := Lib.hid hz
          clear hz
          go_wp2
          go_roundw
          case rel =>
            refine ⟨_, _, _, _, _, _, _, _, _, _, _, _, _, _, _, _, _, _, _, _, _, _, _, ?_, rfl⟩
            exact ⟨i + 1, j + 1, us.set i t, by go_num, by go_num, Lib.hid (HK4.out.keep hjz hlt HT.out HZ.out), by omega, by omega, Lib.hid ((HB4.out.setCell (p := ⟨g, i * 2, none⟩) hg _).setCell (p := ⟨g, i * 2 + 1, none⟩) hg _)⟩
          case measure => simp [intOf]; omega
      · obtain rfl : j = n := by omega
        obtain ⟨i0, hi, hz0, hz1, hz2⟩ := info_parts infoTerm
        have hzv : ∀ w, (zeroValue TI).run Tryz.prog w = .ok (.agg #[.int .i64 0, .string ByteArray.empty]) w := fun w => by simp [zeroValue, typeInfo, hi, hz0]
        have hlu : (termsV us).length = j * 2 := by rw [termsV_len, HK.out.len]
        obtain ⟨vs, hcl⟩ := clear_terms (P := Tryz.prog) wr 33 Tryz.underlying33 hzv g (i * 2) (j - i) (cap - i) (by omega)
          (fun m hm => by rw [HK.out.own.cellAt _ (by omega), List.getElem?_eq_getElem (by omega)]; rfl) (fun m => HK.out.own.frozenAt m)
        clear hi hz0 hz1 hz2 hzv hlu
        go_wp2
        go_ret
        obtain ⟨ys, h1, h2⟩ := ownsRow_behind (m := i * 2) vs (i * 2) HK.out.own (Nat.le_refl _)
        have h3 := ownsRow_shorter (k := i) h1 (by omega)
        refine ⟨⟨_, rfl, ?_⟩, below_cells hg vs _ HB.out⟩
        have hnz : nzT ts = us.take i := by rw [HK.out.head, List.take_of_length_le (by rw [HN.out]; exact Nat.le_refl _)]
        have hl : (us.take i).length = i := by rw [List.length_take, HK.out.len]; omega
        have ht : (termsV us).take (i * 2) = termsV (us.take i) := by
          have e : us = us.take i ++ us.drop i := (List.take_append_drop i us).symm
          conv => lhs; rw [e]
          rw [termsV_append, List.take_append_of_le_length (by rw [termsV_len, hl]; exact Nat.le_refl _), List.take_of_length_le (by rw [termsV_len, hl]; exact Nat.le_refl _)]
        rw [h2, ht] at h3
        unfold OwnT
        rw [hnz, hl]
        exact h3

end Go.Proofs.YtfhlceggihodeaaGreat

/- The contracts of the program's 'toldSum' and 'SumOf'. -/

namespace Go.Proofs.YtfhlceggihodeaaGreat
open Go.RowKit Go.Shelf

/-- What a call of the program answers that tells a sum. -/
def ITold (w : World) (b : Bool) (us : List Tm) (e : Ending) (w' : World) : Prop := (∃ v', e = .returned (.tuple #[v', .bool b]) ∧ OwnT w.heap.size w' v' (cond b us [])) ∧ Below w.heap.size w w'
theorem ownNil (base : Nat) (w : World) : OwnT base w (.slice none 0 0) [] := ⟨rfl, .inl ⟨rfl, rfl⟩⟩
/-- Terms that may be gathered: not too many, not too great, their words of whatever length. -/
theorem filter_small {ts : List Tm} {p : Tm → Bool} (h : SmallT ts) : SmallT (ts.filter p) :=
  ⟨Nat.le_trans (List.length_filter_le _ _) h.1, fun t ht => h.2 t (List.mem_filter.1 ht).1⟩
theorem push_words {acc : List Tm} {t : Tm} {M : Nat} (h : ∀ u ∈ acc, u.s.size ≤ M) (ht : t.s.size ≤ M) : ∀ u ∈ pushT acc t, u.s.size ≤ M := by
  intro u hu
  rcases List.eq_nil_or_concat acc with rfl | ⟨b, l, rfl⟩
  · rw [push_nil] at hu; rw [List.mem_singleton.1 hu]; exact ht
  · rw [List.concat_eq_append] at *
    rw [push_last] at hu
    have hl := h l (by simp)
    split at hu
    · rcases List.mem_append.1 hu with hu | hu
      · exact h u (by simp [hu])
      · rw [List.mem_singleton.1 hu]; exact hl
    · rcases List.mem_append.1 hu with hu | hu
      · exact h u hu
      · rw [List.mem_singleton.1 hu]; exact ht
theorem merge_words {M : Nat} : ∀ (ts acc : List Tm), (∀ u ∈ acc, u.s.size ≤ M) → (∀ u ∈ ts, u.s.size ≤ M) → ∀ u ∈ ts.foldl pushT acc, u.s.size ≤ M
  | [], _, h, _ => h
  | t :: r, acc, h, ht => merge_words r (pushT acc t) (push_words h (ht t (by simp))) (fun u hu => ht u (by simp [hu]))
theorem merge_small {ts : List Tm} (hn : ts.length ≤ 100000) (hc : ∀ t ∈ ts, -1000000000000 ≤ t.c ∧ t.c ≤ 1000000000000) (hs : ∀ t ∈ ts, t.s.size ≤ maxLen) : SmallT (mergeT ts) := by
  have h1 := merge_len ts ts.length
  have h2 := merge_bnd (C := 1000000000000) (by omega) hc ts.length
  rw [merge_all] at h1 h2
  refine ⟨by unfold maxLen; omega, fun t ht => ⟨merge_words ts [] (fun u h => by cases h) hs t ht, ?_⟩⟩
  have := h2 t ht
  omega

set_option maxRecDepth 100000 in
set_option maxHeartbeats 1000000 in
theorem toldSum_any (a : Option Addr) (cap n : Nat) (ts : List Tm) (b : Bool) (w : World) (hs : IsTerms w a n ts) (hn : n ≤ 100000) (hc : ∀ t ∈ ts, -1000000000000 ≤ t.c ∧ t.c ≤ 1000000000000) (hb : twB (canonT ts) = b) :
    Calls Tryz.prog 23 #[.slice a n cap] w (ITold w b (canonT ts)) := by
  have HS := Lib.hid hs
  have HC := Lib.hid hc
  have HBB := Lib.hid hb
  clear hs hc hb
  go_enter Tryz.func23, Tryz.ntmps23
  go_wp2_with fail
  refine (gathered_any a cap n ts _ HS.out hn HC.out).mono ?_
  rintro e w1 ⟨⟨v, rfl, ss, hp, hso, ho⟩, hb1⟩
  obtain ⟨av, mv, cv, rfl⟩ : ∃ a m c, v = .slice a m c := by
    rcases ho.2 with ⟨rfl, _⟩ | ⟨g, cap, cur, rfl, _⟩
    · exact ⟨_, _, _, rfl⟩
    · exact ⟨_, _, _, rfl⟩
  have hss : SmallT (mergeT ss) := merge_small (by rw [hp.length_eq, HS.out.len]; exact hn) (fun t ht => HC.out t (hp.mem_iff.1 ht)) (fun t ht => (HS.out.small t (hp.mem_iff.1 ht)).1)
  have heq : nzT (mergeT ss) = canonT ts := gathered_eq hp hso
  have hsc : SmallT (canonT ts) := by rw [← heq]; exact filter_small hss
  have hdel := deleteZero_any w.heap.size (.slice av mv cv) (mergeT ss) w1 ho hss hb1.size
  rw [heq] at hdel
  have HD := Lib.hid hdel
  have hfield : (Instr.field SrT (.agg #[.slice av mv cv, CF]) 0).run Tryz.prog w1 = .ok (.slice av mv cv) w1 := by
    simp [Instr.field, run_underlying Tryz.underlying74, part, run_isAgg_plain Tryz.underlying33 rfl, asAgg, Result.andThen]
  have HSC := Lib.hid hsc
  have HB1 := Lib.hid hb1
  clear hp hso ho hss heq hsc hdel hb1
  go_wp2_with fail
  refine HD.out.mono ?_
  rintro e w2 ⟨⟨r, rfl, ho⟩, hb2⟩
  obtain ⟨ar, cr, rfl, hI⟩ := ho.isTerms HSC.out
  have HO := Lib.hid ho
  have HI := Lib.hid hI
  have HB2 := Lib.hid (HB1.out.trans hb2)
  clear ho hI hb2
  go_wp2_with fail
  refine (termWords_any ar cr _ (canonT ts) _ HI.out).mono ?_
  rintro e w3 ⟨⟨rfl, hf⟩ | ⟨g, vals, rfl, hf, _, _⟩, hb3⟩
  · obtain rfl : b = false := by rw [← HBB.out, hf]
    have HB3 := Lib.hid hb3
    clear hb3 hf
    go_wp2
    go_ret2
    exact ⟨⟨_, rfl, ownNil _ _⟩, HB2.out.trans (HB3.out.mono HB2.out.size)⟩
  · obtain rfl : b = true := by rw [← HBB.out, hf]
    have HB3 := Lib.hid hb3
    clear hb3 hf
    go_wp2
    go_ret2
    exact ⟨⟨_, rfl, HO.out.below HB3.out⟩, HB2.out.trans (HB3.out.mono HB2.out.size)⟩

end Go.Proofs.YtfhlceggihodeaaGreat

/- A map copied, cleared, made with one entry; the contracts of the program's 'oneSeries' and 'told' (of a series). -/

namespace Go.Proofs.YtfhlceggihodeaaGreat
open Go.RowKit Go.Shelf Go.Maps Go.MapKept

def cloneS_ren : Go.Shelf.Ren := ⟨fun | 5 => 72 | 7 => 85 | n => n, fun | 23 => 63 | 25 => 39 | 3 => 3 | 4 => 4 | 20 => 20 | n => n, fun n => n⟩
theorem cloneS : SlLaysW.n5 Tryz.prog cloneS_ren := {
  mixed := by kernel_rfl
  f5 := Exists.intro "maps.Clone[loop.example/foxcalculus/impl.series,loop.example/foxcalculus/impl.monomial,int]" ⟨of_decide_eq_true (by kernel_rfl), Tryz.func72.trans (congrArg some (by kernel_rfl))⟩
  f7 := Tryz.func85.trans (congrArg some (by kernel_rfl))
  t4 := Tryz.underlying4
  a4 := Tryz.isAgg4
  z4 := Tryz.sizeOf4
  v4 := Tryz.zeroValue4
  t20 := Tryz.underlying20
  a20 := Tryz.isAgg20
  z20 := Tryz.sizeOf20
  v20 := Tryz.zeroValue20
  t23 := Tryz.underlying63
  a23 := Tryz.isAgg63
  z23 := Tryz.sizeOf63
  v23 := Tryz.zeroValue63 }
theorem clone_any (b : Nat) (ts : List Tm) (w : World) (h : MapT w b ts) :
    Calls Tryz.prog 72 #[.map (some b)] w fun e w' => e = .returned (.map (some w.heap.size)) ∧ MapT w' w.heap.size ts ∧ Below w.heap.size w w' := by
  obtain ⟨es, h, hq⟩ := h
  refine (AnyW.maps_Clone_owns cloneS MonT _ b _ _ w h).mono ?_
  rintro e w' ⟨rfl, h1, _, h2⟩
  exact ⟨rfl, ⟨es, h1, hq⟩, h2⟩

section
variable {ops : Array Oper} {rest : List Oper} {o : Oper} {a : Act} {Q : Exit → Act → World → Prop}
theorem wpList_clear_map (w : World) (hg : o.guard = none) (m : Operand) (hop : o.op = Op.call { callee := Callee.builtin Builtin.clear, args := #[m], argTypes := #[SerT] }) (b : Nat) (ts : List Tm) (hm : a.eval m = .map (some b)) (h : MapT w b ts)
    (hK : ∀ w', MapT w' b [] → w.grownBy w' (some b) → wpList Tryz.prog ops Q rest (a.put o.dst (.tuple #[])) w') : wpList Tryz.prog ops Q (o :: rest) a w := by
  obtain ⟨es, ⟨es', clock, hb, F, _, _⟩, _⟩ := h
  have hrun : (Builtin.clear_ #[SerT] o.type #[.map (some b)]).run Tryz.prog w = .ok (.tuple #[]) { w with heap := w.heap.setIfInBounds b (.map #[] clock) } := by
    simp [Builtin.clear_, run_underlying undSer, Go.MapKept.run_getObj_map hb, Go.MapKept.run_setObj_map _ hb, Result.andThen]
  refine wpList_plain hg fun K' hK' => ?_
  unfold Oper.wp
  simp [execOp, hop, resolve, invoke, builtin, hm, hrun, Result.andThen]
  exact hK' _ _ (hK _ ⟨[], ⟨#[], clock, (heap_set hb).1, ⟨by simp, stamped_empty _, by simp⟩, Nat.le_refl _, rfl⟩, .refl _⟩ ⟨rfl, rfl, rfl, by simp, fun k _ hk => (heap_set hb).2 k fun e => hk (by rw [e])⟩)
theorem wpList_insert_map (w : World) (hg : o.guard = none) (m x v : Operand) (hop : o.op = Op.insert SerT m x v) (b : Nat) (ts : List Tm) (hm : a.eval m = .map (some b)) (h : MapT w b ts) (hn : ts.length < maxLen) (s : ByteArray) (c : Int)
    (hx : a.eval x = .string s) (hv : a.eval v = .int .i64 c) (hs : s.size ≤ maxLen) (hc : (Lit.int .i64 c).wf = true)
    (hK : ∀ w', MapT w' b (putT ts s c) → w.grownBy w' (some b) → wpList Tryz.prog ops Q rest (a.put o.dst undef) w') : wpList Tryz.prog ops Q (o :: rest) a w := by
  obtain ⟨D, hown, hput⟩ := h.store
  refine wpList_plain hg fun K' hK' => ?_
  obtain ⟨w', hrun, r1, r2⟩ := hown.update lawMon undSer hn (key_mk hs) (plainElem_int (H := Unit) Tryz.underlying3 hc)
  unfold Oper.wp
  simp [execOp, hop, hm, hx, hv, hrun, Result.andThen]
  exact hK' _ _ (hK w' (hput s c w' r1) r2)
end

theorem oneSeries_any (w : World) : Calls Tryz.prog 53 #[] w fun e w' => (∃ b, e = .returned (.map (some b)) ∧ w.heap.size ≤ b ∧ MapT w' b [⟨1, { data := #[] }⟩]) ∧ Below w.heap.size w w' := by
  have hmm := @run_makeMap Tryz.prog
  have h0 := mapT_made w
  go_enter Tryz.func53, Tryz.ntmps53
  go_wp2_with (first | (refine wpList_insert_map _ rfl _ _ _ rfl w.heap.size [] rfl h0 (by simp [maxLen]) _ _ rfl rfl (Nat.zero_le _) (by decide) ?_; intro w1 h1 hg1) | go_in)
  go_ret
  exact ⟨⟨_, rfl, Nat.le_refl _, h1⟩, ((Below.refl _ w).alloc (Nat.le_refl _) _).grown hg1 (by simp) (fun k e => by cases e; exact Nat.le_refl _)⟩

/-! ### told -/
def nzT2 (ts : List Tm) : List Tm := ts.filter fun t => !(t.c == 0)
theorem nzT2_snoc (ts : List Tm) (c : Int) (s : ByteArray) : nzT2 (ts ++ [⟨c, s⟩]) = if c = 0 then nzT2 ts else nzT2 ts ++ [⟨c, s⟩] := by
  unfold nzT2
  rw [List.filter_append, List.filter_cons, List.filter_nil]
  by_cases h : c = 0
  · simp [h]
  · simp [h]
theorem sorted_canon {ss ts : List Tm} (ha : Apart ts) (hp : ss.Perm (nzT2 ts)) (hs : ss.Pairwise (fun a b => lessW b.s a.s = false)) : ss = canonT ts := by
  have hsub : Apart (nzT2 ts) := List.Pairwise.filter _ ha
  have hss : Apart ss := hsub.perm hp.symm
  refine canonT_unique ⟨?_, fun t ht => ?_⟩ fun s => ?_
  · have h2 := List.pairwise_iff_getElem.1 hss
    have h1 := List.pairwise_iff_getElem.1 hs
    refine List.pairwise_iff_getElem.2 fun i j hi hj hij => ?_
    cases h : lessW ss[i].s ss[j].s
    · exact absurd (lessW_tri h (h1 i j hi hj hij)) (h2 i j hi hj hij)
    · rfl
  · have := (List.mem_filter.1 (hp.mem_iff.1 ht)).2
    simpa using this
  · rw [coefAt_perm s hp]; exact coefAt_filter s ts

end Go.Proofs.YtfhlceggihodeaaGreat

/- The contract of the program's 'times' (of series). -/

namespace Go.Proofs.YtfhlceggihodeaaGreat
open Go.RowKit Go.Shelf

theorem put_fresh {ts : List Tm} {s : ByteArray} {v : Int} (h : ∀ t ∈ ts, t.s ≠ s) : putT ts s v = ⟨v, s⟩ :: ts := by
  unfold putT
  rw [filter_every fun t ht => by simp [h t ht]]
theorem canon_apart {ts : List Tm} (h : Canon ts) : Apart ts := h.1.imp fun hl => lessW_ne hl
theorem apart_fresh {ts : List Tm} (h : Apart ts) {k : Nat} (hk : k < ts.length) : ∀ t ∈ ts.take k, t.s ≠ ts[k].s := fun t ht => by
  obtain ⟨i, hi, rfl⟩ := List.getElem_of_mem ht
  rw [List.length_take] at hi
  rw [List.getElem_take]
  exact List.pairwise_iff_getElem.1 h i k (by omega) hk (by omega)
theorem take_perm {ts : List Tm} {k : Nat} (hk : k < ts.length) : (ts[k] :: ts.take k).Perm (ts.take (k + 1)) := by
  rw [List.take_succ_eq_append_getElem hk]
  exact List.perm_append_comm (l₁ := [ts[k]])

/-! ### times -/
set_option maxRecDepth 100000 in
set_option maxHeartbeats 4000000 in
theorem times_any (b b2 : Nat) (X Y : List Tm) (w : World) (hne : b ≠ b2) (hX : MapT w b X) (hY : MapT w b2 Y) (mX : MonoT X) (mY : MonoT Y) (cX : BndT 1000000 X) (cY : BndT 1000000 Y) :
    Calls Tryz.prog 55 #[.map (some b), .map (some b2)] w fun e w' => e = .returned (.tuple #[]) ∧ (∃ ts, MapT w' b ts ∧ MonoT ts ∧ ∀ k, coefAt k ts = coefAt k (pairsS X Y)) ∧ w.grownBy w' (some b) := by
  have hb := hX.lt
  have hb2 := hY.lt
  have hlX := apart_len341 hX.apart mX
  have hlY := apart_len341 hY.apart mY
  have HX := Lib.hid hX
  have HY := Lib.hid hY
  have MX := Lib.hid mX
  have MY := Lib.hid mY
  have CX := Lib.hid cX
  have CY := Lib.hid cY
  clear hX hY mX mY cX cY
  go_enter Tryz.func55, Tryz.ntmps55
  go_wp2_with fail
  refine (clone_any b X w HX.out).mono ?_
  rintro e w1 ⟨rfl, hc, hb1⟩
  have hcl := hc.lt
  obtain ⟨cb, hcb⟩ : ∃ cb, w.heap.size = cb := ⟨_, rfl⟩
  rw [hcb] at hc hcl ⊢
  have HC1 := Lib.hid hc
  have HX1 := Lib.hid (HX.out.below hb1)
  have HY1 := Lib.hid (HY.out.below hb1)
  have G1 : w.grownBy w1 (some b) := (grown_of_below hb1).but _
  have HG1 := Lib.hid G1
  have HCB := Lib.hid hcb
  have hbc : b < cb := by omega
  have hb2c : b2 < cb := by omega
  clear hc hb1 G1 hcb hb hb2
  go_wp2_with (first | (refine wpList_clear_map _ rfl _ rfl b X rfl HX1.out ?_; intro w2 h2 hg2) | (at_range; refine wpList_range_map _ rfl _ rfl b2 Y rfl (HY1.out.kept hg2 (by simp; omega)) ?_; intro w3 hrg3 hg3 hs3) | go_in)
  go_frame
  have hs2 := hg2.size
  obtain ⟨r, hr⟩ : ∃ r, w2.heap.size = r := ⟨_, rfl⟩
  rw [hr] at hrg3 hs3 ⊢
  have HC3 : MapT w3 cb X := (HC1.out.kept hg2 (by simp; omega)).kept hg3 (by simp)
  have H3 : MapT w3 b [] := h2.kept hg3 (by simp)
  have G3 : w.grownBy w3 (some b) := (HG1.out.andThen hg2 (fun j hj => by cases hj; exact Or.inr rfl)).andThen hg3 (fun j hj => by cases hj)
  have hrc : cb < r := by omega
  go_loopw [5] (fun _ wr => ∃ (done : List Tm) (cnt : Nat) (ts : List Tm), RangeT wr b2 r Y done cnt ∧ MapT wr cb X ∧ MapT wr b ts ∧ Hid (MonoT ts ∧ ∀ k, coefAt k ts = coefAt k (pairsQ done X)) ∧ w.grownBy wr (some b))
    (fun _ wr => wr.rangeLeft b2 r)
  case atStart => exact ⟨[], _, [], hrg3, HC3, H3, Lib.hid ⟨fun t ht => by (cases ht), fun _ => rfl⟩, G3⟩
  case round =>
    obtain ⟨done, cnt, ts, hrg, hC, hT, HF, hG⟩ := hrel
    have hcl := hrg.cnt
    have hdl := hrg.donelen
    have hrl := hrg.lt
    have HRG := Lib.hid hrg
    have HCC := Lib.hid hC
    have HTT := Lib.hid hT
    have HGG := Lib.hid hG
    clear hrg hC hT hG H3 G3 HC3 hrg3 hg3 h2 hg2
    go_wp2_with (first | (at_next; refine wpList_next_map _ rfl _ rfl b2 r Y done cnt rfl HRG.out ?_ ?_) | go_in)
    · intro hperm
      go_wp2
      go_end0
      refine ⟨rfl, ⟨ts, HTT.out, HF.out.1, fun k => ?_⟩, HGG.out⟩
      rw [HF.out.2, coefAt_perm k (pairsQ_perm X hperm), pairsQ_swap]
    · intro m y v1 cnt1 hmem hrg1 hlt hg1 hs1 hen
      have HCv := Lib.hid (HCC.out.kept hg1 (by simp; omega))
      have HTv := Lib.hid (HTT.out.kept hg1 (by simp; omega))
      have HGv := Lib.hid (HGG.out.andThen hg1 (fun j hj => by cases hj; exact Or.inl (by have := HCB.out; omega)))
      have HRv := Lib.hid hrg1
      have hym := MY.out _ hmem
      have hys : y.size ≤ 4 := mono_size hym
      have hyc := CY.out _ hmem
      have HYM := Lib.hid hym
      have HYC := Lib.hid hyc
      clear hmem hym hyc hrg1 hg1 HRG HCC HTT HGG
      go_wp2_with (first | (at_range; refine wpList_range_map _ rfl _ rfl cb X rfl HCv.out ?_; intro v2 hrg2 hg2 hs2) | go_in)
      try go_frame
      rw [hs1] at hrg2 hs2
      obtain ⟨r2, hr2⟩ : ∃ r2, wr.heap.size = r2 := ⟨_, rfl⟩
      rw [hr2] at hrg2 hs2 ⊢
      have hrr : r < r2 := by omega
      have HR2 : RangeT v2 b2 r Y (done ++ [⟨m, y⟩]) cnt1 := HRv.out.kept hg2 (by simp) (by simp)
      have HT2 : MapT v2 b ts := HTv.out.kept hg2 (by simp)
      have HG2 : w.grownBy v2 (some b) := HGv.out.andThen hg2 (fun j hj => by cases hj)
      go_loopw [7] (fun _ wr => ∃ (dX : List Tm) (cnt2 : Nat) (us : List Tm), RangeT wr cb r2 X dX cnt2 ∧ RangeT wr b2 r Y (done ++ [⟨m, y⟩]) cnt1 ∧ MapT wr b us ∧ Hid (MonoT us ∧ ∀ k, coefAt k us = coefAt k (pairsQ done X ++ rowQ ⟨m, y⟩ dX)) ∧ w.grownBy wr (some b))
        (fun _ wr => wr.rangeLeft cb r2)
      case atStart => exact ⟨[], _, ts, hrg2, HR2, HT2, Lib.hid ⟨HF.out.1, fun k => by rw [HF.out.2, coefAt_append]; simp [rowQ, coefAt]⟩, HG2⟩
      case round =>
        obtain ⟨dX, cnt2, us, hrgX, hrgY, hU, HU, hGr⟩ := hrel
        have hcl2 := hrgX.cnt
        have hdl2 := hrgX.donelen
        have HRX := Lib.hid hrgX
        have HRY := Lib.hid hrgY
        have HUU := Lib.hid hU
        have HGr := Lib.hid hGr
        clear hrgX hrgY hU hGr HR2 HT2 HG2 hrg2 hg2
        go_wp2_with (first | (at_next; refine wpList_next_map _ rfl _ rfl cb r2 X dX cnt2 rfl HRX.out ?_ ?_) | go_in)
        · intro hperm
          have hl1 := HRY.out.cnt
          go_wp2
          go_roundw
          case rel => exact ⟨_, cnt1, us, HRY.out, HRX.out.map, HUU.out, Lib.hid ⟨HU.out.1, fun k => by rw [HU.out.2, pairsQ_snoc, coefAt_append, coefAt_append, coefAt_perm k (rowQ_perm _ hperm)]⟩, HGr.out⟩
          case measure => rw [hl1, hcl]; exact hlt
        · intro n x v3 cnt3 hmem hrgX hlt2 hg3 hs3 hen2
          have HRX3 := Lib.hid hrgX
          have HRY3 := Lib.hid (HRY.out.kept hg3 (by simp; omega) (by simp; omega))
          have HU3 := Lib.hid (HUU.out.kept hg3 (by simp; omega))
          have HG3 := Lib.hid (HGr.out.andThen hg3 (fun j hj => by cases hj; exact Or.inl (by have := HCB.out; omega)))
          have hxm := MX.out _ hmem
          have hxs : x.size ≤ 4 := mono_size hxm
          have hxc := CX.out _ hmem
          have hsn := rowQ_snoc ⟨m, y⟩ dX ⟨n, x⟩
          have hl3 := hrgX.cnt
          clear hmem hrgX hg3 HRX HRY HUU HGr
          by_cases h4 : x.size + y.size ≤ 4
          · have hd4 : decide ((x.size : Int) + (y.size : Int) ≤ 4) = true := decide_eq_true (by omega)
            obtain ⟨q, hq⟩ : ∃ q, x ++ y = q := ⟨_, rfl⟩
            have hqs : q.size = x.size + y.size := by rw [← hq]; exact ByteArray.size_append
            have hnot : ¬ 9223372036854775807 < x.size + y.size := by omega
            have hqm : q.size ≤ maxLen := by unfold maxLen; omega
            have hqmono : monoB q = true := by rw [← hq]; exact mono_append hxm HYM.out (by rw [hq]; omega)
            have hsn' : rowQ ⟨m, y⟩ (dX ++ [⟨n, x⟩]) = rowQ ⟨m, y⟩ dX ++ [⟨n * m, q⟩] := by rw [hsn, hq, if_pos (by omega)]
            have hmb := mul_bnd hxc HYC.out
            simp only at hmb
            obtain ⟨d, hd⟩ : ∃ d, n * m = d := ⟨_, rfl⟩
            rw [hd] at hmb hsn'
            have hmul : IntKind.i64.wrap (n * m) = d := by rw [hd]; exact IntWalk.i64_in _ (by omega)
            obtain ⟨z, hz⟩ : ∃ z, coefAt q us = z := ⟨_, rfl⟩
            have hzb : -120000000000000000 ≤ z ∧ z ≤ 120000000000000000 := by
              rw [← hz, HU.out.2]
              have hbq : BndT 1000000000000 (pairsQ done X ++ rowQ ⟨m, y⟩ dX) := fun t ht => by
                rcases List.mem_append.1 ht with ht | ht
                · exact bndQQ CX.out (fun u hu => CY.out u (HRY3.out.sub u (List.mem_append.2 (.inl hu)))) t ht
                · exact bndQ (fun u hu => CX.out u (HRX3.out.sub u (List.mem_append.2 (.inl hu)))) HYC.out t ht
              have h1 := coef_bnd (by omega) q hbq
              have h2 := pairsQ_len X done
              have h3 := rowQ_len ⟨m, y⟩ dX
              have h5 : done.length * X.length ≤ 341 * 341 := Nat.mul_le_mul (by omega) hlX
              have h6 : (pairsQ done X ++ rowQ ⟨m, y⟩ dX).length ≤ 341 * 341 + 341 := by rw [List.length_append]; omega
              omega
            have hadd : IntKind.i64.wrap (z + d) = z + d := IntWalk.i64_in _ (by omega)
            have hwf : (Lit.int .i64 (z + d)).wf = true := by
              simp only [Lit.wf, Bool.and_eq_true, decide_eq_true_eq]
              have e1 : IntKind.i64.min = -9223372036854775808 := by decide
              have e2 : IntKind.i64.max = 9223372036854775807 := by decide
              omega
            have hul : us.length < maxLen := by have := apart_len341 HU3.out.apart HU.out.1; unfold maxLen; omega
            have HSN := Lib.hid hsn'
            have HQM := Lib.hid hqmono
            have HZ := Lib.hid hz
            have HUL := Lib.hid hul
            have HWF := Lib.hid hwf
            have HQS := Lib.hid hqs
            clear hsn hsn' hqmono hmb hzb hxc hxm hul hwf hd hqs
            go_wp2_with (first | (refine wpList_lookup_map _ rfl _ _ rfl b us rfl HU3.out q rfl hqm ?_; rw [HZ.out]) | (refine wpList_update_map _ rfl _ _ _ rfl b us rfl HU3.out HUL.out q (z + d) rfl rfl hqm HWF.out ?_; intro v5 h5 hg5; simp only [Act.put]) | go_in)
            have hR5 := HRX3.out.kept hg5 (by simp; omega) (by simp; omega)
            have hl5 := hR5.cnt
            go_roundw
            case rel =>
              refine ⟨_, cnt3, _, hR5, HRY3.out.kept hg5 (by simp; omega) (by simp; omega), h5, Lib.hid ⟨mono_put HU.out.1 HQM.out, fun k => ?_⟩, HG3.out.andThen hg5 (fun j hj => by cases hj; exact Or.inr rfl)⟩
              rw [HSN.out, ← List.append_assoc, ← put_add q d HU.out.2 k, HZ.out]
            case measure => rw [hl5, hcl2]; exact hlt2
          · have hd4 : decide ((x.size : Int) + (y.size : Int) ≤ 4) = false := decide_eq_false (by omega)
            rw [if_neg (by simp only [ByteArray.size_append]; omega), List.append_nil] at hsn
            have HSN := Lib.hid hsn
            clear hsn hxc hxm
            go_wp2
            go_roundw
            case rel => exact ⟨_, cnt3, us, HRX3.out, HRY3.out, HU3.out, Lib.hid ⟨HU.out.1, fun k => by rw [HSN.out]; exact HU.out.2 k⟩, HG3.out⟩
            case measure => rw [hl3, hcl2]; exact hlt2

end Go.Proofs.YtfhlceggihodeaaGreat

/- The contracts of the program's 'series' of a letter and of a word, and of 'SeriesOf'. -/

namespace Go.Proofs.YtfhlceggihodeaaGreat
open Go.RowKit Go.Shelf

theorem altZ_succ (k : Nat) : altZ (k + 1) = -altZ k := by unfold altZ; split <;> split <;> omega
theorem altZ_one (k : Nat) : altZ k = 1 ∨ altZ k = -1 := by unfold altZ; split <;> simp
theorem bstr_app (a b : List UInt8) : bstr a ++ bstr b = bstr (a ++ b) := bytes_ext (by simp [bstr_toList])
theorem powS_next (c : UInt8) (k : Nat) : bstr (repL k (letX c)) ++ bstr (letX c) = bstr (repL (k + 1) (letX c)) := by rw [bstr_app, ← repL_add, repL_one]
theorem powS_size (c : UInt8) (k : Nat) : (bstr (repL k (letX c))).size = k := by
  have : (bstr (repL k (letX c))).data.toList.length = k := by rw [bstr_toList, repL_len]; simp [letX]
  simpa using this
theorem powT_fresh (c : UInt8) (k : Nat) : ∀ t ∈ (List.range (k + 1)).map (powT c), t.s ≠ bstr (repL (k + 1) (letX c)) := fun t ht => by
  obtain ⟨i, hi, rfl⟩ := List.mem_map.1 ht
  have := List.mem_range.1 hi
  intro e
  have e2 := congrArg ByteArray.size e
  unfold powT at e2
  rw [powS_size, powS_size] at e2
  omega
theorem powT_put (c : UInt8) (k : Nat) : (putT ((List.range (k + 1)).map (powT c)) (bstr (repL (k + 1) (letX c))) (altZ (k + 1))).Perm ((List.range (k + 2)).map (powT c)) := by
  rw [put_fresh (powT_fresh c k), List.range_succ (n := k + 1), List.map_append]
  exact List.perm_append_comm (l₁ := [powT c (k + 1)])

section
attribute [local go_sem] Oper.semAt_some
set_option maxRecDepth 100000 in
set_option maxHeartbeats 4000000 in
theorem letterSeries_any (c : UInt8) (w : World) (hc : letB c = true) :
    Calls Tryz.prog 56 #[.int .u8 (c.toNat : Int)] w fun e w' => ∃ b, e = .returned (.map (some b)) ∧ w.heap.size ≤ b ∧ MapT w' b (letS c) ∧ Below w.heap.size w w' := by
  have hor := (idx_let c hc).1
  have hj4 := idxB_lt c hc
  obtain ⟨u, hu⟩ : ∃ u, sgnB c = u := ⟨_, rfl⟩
  have HSX : Hid (∀ W, Calls Tryz.prog 36 #[.int .u8 (c.toNat : Int)] W fun e w' => e = .returned (.int .i64 u) ∧ w' = W) := Lib.hid fun W => by rw [← hu]; exact iSign_any c W hc
  obtain ⟨j, hj⟩ : ∃ j, idxB c = j := ⟨_, rfl⟩
  rw [hj] at hor hj4
  have HU : Hid (sgnB c = u) := Lib.hid hu
  have hlx : letX c = [UInt8.ofNat (97 + j)] := by unfold letX; rw [hj]
  have HLX := Lib.hid hlx
  clear hc hu hj hlx
  go_enter Tryz.func56, Tryz.ntmps56
  go_wp2_with fail
  refine (text_letters w.heap.size 0 1 1 (letX c) _ (by rw [HLX.out]; rfl) (by omega) ⟨by simp, fun i hi => ?_⟩).mono ?_
  · have h0 : i = 0 := by simp [letX] at hi; exact hi
    subst h0
    refine (World.cell?_alloc_at _ _ _ _ (by simp)).trans ?_
    have : ((letX c)[0]'hi) = UInt8.ofNat (97 + j) := by simp only [HLX.out, List.getElem_cons_zero]
    rw [this, UInt8.toNat_ofNat', Nat.mod_eq_of_lt (by omega)]
    show some (Value.int IntKind.u8 ((j : Int) + 97)) = some (Value.int IntKind.u8 ((97 + j : Nat) : Int))
    rw [show ((97 + j : Nat) : Int) = (j : Int) + 97 by omega]
  rintro e w1 ⟨rfl, hb1⟩
  obtain ⟨gx, hgx⟩ : ∃ gx, bstr (letX c) = gx := ⟨_, rfl⟩
  rw [hgx]
  have hB1 : Below w.heap.size w w1 := ((Below.refl _ w).alloc (Nat.le_refl _) _).trans (hb1.mono (by simp))
  have HB1 := Lib.hid hB1
  have HGX := Lib.hid hgx
  clear hb1 hB1 hgx
  go_wp2_with fail
  refine (oneSeries_any _).mono ?_
  rintro e w2 ⟨⟨mb, rfl, hlo, hM⟩, hb2⟩
  have hB2 : Below w.heap.size w w2 := HB1.out.trans (hb2.mono HB1.out.size)
  have hmb : w.heap.size ≤ mb := Nat.le_trans HB1.out.size hlo
  have HM := Lib.hid hM
  have HB2 := Lib.hid hB2
  clear hb2 hB2 hM hlo
  by_cases h97 : 97 ≤ c.toNat
  · obtain rfl : u = 1 := by rw [← HU.out]; unfold sgnB; rw [if_pos h97]
    have hls : letS c = [⟨1, { data := #[] }⟩, ⟨1, gx⟩] := by unfold letS; rw [if_pos h97, HGX.out]
    have hgs : gx.size ≤ maxLen := by rw [← HGX.out, ← repL_one (letX c), powS_size]; unfold maxLen; omega
    have hfr : putT [(⟨1, { data := #[] }⟩ : Tm)] gx 1 = [⟨1, gx⟩, ⟨1, { data := #[] }⟩] := put_fresh fun t ht => by
      rw [List.mem_singleton.1 ht]
      intro e
      have e2 := congrArg ByteArray.size e
      rw [← HGX.out, ← repL_one (letX c), powS_size] at e2
      cases e2
    have HGS := Lib.hid hgs
    have HFR := Lib.hid hfr
    have HLS := Lib.hid hls
    clear hgs hfr hls h97
    go_wp2_with fail
    refine (HSX.out _).mono ?_
    rintro e w3 ⟨rfl, rfl⟩
    go_wp2_with (first | (refine wpList_update_map _ rfl _ _ _ rfl mb [⟨1, { data := #[] }⟩] rfl HM.out (by simp [maxLen]) gx 1 rfl rfl HGS.out (by decide) ?_; intro v5 h5 hg5; simp only [Act.put]) | go_in)
    go_ret
    refine ⟨mb, rfl, hmb, ?_, HB2.out.grown hg5 HB2.out.size (fun i ei => by cases ei; exact hmb)⟩
    rw [HFR.out] at h5
    rw [HLS.out]
    exact h5.perm (List.Perm.swap _ _ _)
  · obtain rfl : u = -1 := by rw [← HU.out]; unfold sgnB; rw [if_neg h97]
    have HLS : Hid (letS c = (List.range 5).map (powT c)) := Lib.hid (by unfold letS; rw [if_neg h97])
    have HM0 : Hid (MapT w2 mb ((List.range (0 + 1)).map (powT c))) := HM
    clear h97
    go_wp2_with fail
    refine (HSX.out _).mono ?_
    rintro e w3 ⟨rfl, rfl⟩
    go_wp2_with fail
    go_loopw [5, 6, 18] (fun p z i wr => ∃ k : Nat, k ≤ 4 ∧ p = .string (bstr (repL k (letX c))) ∧ z = .int .i64 (altZ k) ∧ i = .int .i64 k ∧ MapT wr mb ((List.range (k + 1)).map (powT c)) ∧ Below w.heap.size w wr) (fun _ _ i _ => 4 - (intOf i).toNat)
    case atStart => exact ⟨0, by omega, rfl, rfl, rfl, HM0.out, HB2.out⟩
    case round =>
      obtain ⟨k, hk, rfl, rfl, rfl, hT, hB⟩ := hrel
      have HT := Lib.hid hT
      have HB := Lib.hid hB
      clear hT hB
      by_cases hlt : k < 4
      · have hpn := powS_next c k
        obtain ⟨p, hp⟩ : ∃ p, bstr (repL k (letX c)) = p := ⟨_, rfl⟩
        obtain ⟨q, hq⟩ : ∃ q, bstr (repL (k + 1) (letX c)) = q := ⟨_, rfl⟩
        have hps : p.size = k := by rw [← hp]; exact powS_size c k
        have hgs : gx.size = 1 := by rw [← HGX.out, ← repL_one (letX c)]; exact powS_size c 1
        have hqs : q.size ≤ maxLen := by rw [← hq, powS_size]; unfold maxLen; omega
        have hput := powT_put c k
        rw [hp, HGX.out, hq] at hpn
        rw [hq] at hput
        obtain ⟨z, hz⟩ : ∃ z, altZ k = z := ⟨_, rfl⟩
        have hz1 : altZ (k + 1) = -z := by rw [← hz]; exact altZ_succ k
        have hzz : z = 1 ∨ z = -1 := by rw [← hz]; exact altZ_one k
        have hneg : IntKind.i64.wrap (-z) = -z := IntWalk.i64_in _ (by omega)
        have hwf : (Lit.int .i64 (-z)).wf = true := by rcases hzz with rfl | rfl <;> decide
        have hnot : ¬ 9223372036854775807 < p.size + gx.size := by omega
        have hli : ((k : Int) < 4) := by omega
        rw [hz1] at hput
        rw [hp, hz]
        have HP := Lib.hid hput
        have HQ := Lib.hid hq
        have HQS := Lib.hid hqs
        have HWF := Lib.hid hwf
        have HZ1 := Lib.hid hz1
        have HUL := Lib.hid (show ((List.range (k + 1)).map (powT c)).length < maxLen by rw [List.length_map, List.length_range]; unfold maxLen; omega)
        clear hp hq hqs hput hz hz1 hzz hwf hps hgs
        go_wp2_with (first | (refine wpList_update_map _ rfl _ _ _ rfl mb ((List.range (k + 1)).map (powT c)) rfl HT.out HUL.out q (-z) rfl rfl HQS.out HWF.out ?_; intro v5 h5 hg5; simp only [Act.put]) | go_in)
        go_roundw
        case rel => exact ⟨k + 1, by omega, by rw [HQ.out], by rw [HZ1.out], by go_num, h5.perm HP.out, HB.out.grown hg5 HB.out.size (fun i ei => by cases ei; exact hmb)⟩
        case measure => simp [intOf]; omega
      · obtain rfl : k = 4 := by omega
        go_wp2
        go_ret
        refine ⟨mb, rfl, hmb, ?_, HB.out⟩
        rw [HLS.out]
        exact HT.out
end

end Go.Proofs.YtfhlceggihodeaaGreat

/- The contract of the program's 'told' (of a series). -/

namespace Go.Proofs.YtfhlceggihodeaaGreat
open Go.RowKit Go.Shelf Go.Maps Go.MapKept

set_option maxRecDepth 100000 in
set_option maxHeartbeats 2000000 in
theorem seriesTold_any (b : Nat) (ts : List Tm) (r : Bool) (w : World) (h : MapT w b ts) (hl : ts.length ≤ 1000) (hb : twS (canonT ts) = r) :
    Calls Tryz.prog 33 #[.map (some b)] w (ITold w r (canonT ts)) := by
  obtain ⟨i0, hi, hz0, hz1, hz2⟩ := info_parts infoTerm
  have hsm := h.small
  have hap := h.apart
  have hbl := h.lt
  have HSM := Lib.hid hsm
  have HAP := Lib.hid hap
  have HBB := Lib.hid hb
  have HL := Lib.hid hl
  clear hsm hap hb
  go_enter Tryz.func33, Tryz.ntmps33
  go_wp2_with (first | (at_range; refine wpList_range_map _ rfl _ rfl b ts rfl h ?_; intro w0 hrg0 hg0 hs0) | go_in)
  go_frame
  go_loopw [4] (fun v wr => ∃ (done : List Tm) (cnt : Nat), RangeT wr b w.heap.size ts done cnt ∧ Hid (OwnT w0.heap.size wr v (nzT2 done)) ∧ w0.heap.size ≤ wr.heap.size ∧ Below w.heap.size w wr)
    (fun _ wr => wr.rangeLeft b w.heap.size)
  case atStart => exact ⟨[], _, hrg0, Lib.hid ⟨rfl, .inl ⟨rfl, rfl⟩⟩, Nat.le_refl _, (Below.refl _ _).grown hg0 (Nat.le_refl _) (fun k e => by cases e)⟩
  case round =>
    obtain ⟨done, cnt, hrg, HO, hsz, hB⟩ := hrel
    have hlow0 := Lib.hid (ownsRow_low HO.out)
    have hcl := hrg.cnt
    have hdl := hrg.donelen
    have HRG := Lib.hid hrg
    go_wp2_with (first | (at_next; refine wpList_next_map _ rfl _ rfl b w.heap.size ts done cnt rfl HRG.out ?_ ?_) | go_in)
    · intro hperm
      have hsd : SmallT (nzT2 done) := ⟨by have := List.length_filter_le (fun t : Tm => !(t.c == 0)) done; unfold nzT2 maxLen; omega, fun t ht => HSM.out.2 t (hperm.mem_iff.1 (List.mem_filter.1 ht).1)⟩
      have hld : (nzT2 done).length ≤ 1000000 := by have := List.length_filter_le (fun t : Tm => !(t.c == 0)) done; unfold nzT2; omega
      obtain ⟨a1, c1, rfl, _⟩ := HO.out.isTerms hsd
      have HSO := Lib.hid (sortOwn_any w0.heap.size _ _ (nzT2 done) wr rfl hld hsz HO.out)
      have HPM := Lib.hid hperm
      have HSD := Lib.hid hsd
      clear hrg hperm hsd hld hlow0
      go_wp2_with fail
      refine HSO.out.mono ?_
      rintro e w2 ⟨rfl, ⟨ss, hp, hso, ho⟩, hb2⟩
      have hsc : ss = canonT ts := by
        rw [sorted_canon (HAP.out.perm HPM.out.symm) hp hso]
        exact canon_same fun k => coefAt_perm k HPM.out
      have hlen : ss.length = (nzT2 done).length := hp.length_eq
      have ho' : OwnT w0.heap.size w2 (.slice a1 (nzT2 done).length c1) ss := by unfold OwnT; rw [hlen]; exact ho
      have hss : SmallT ss := ⟨by rw [hlen]; exact HSD.out.1, fun t ht => HSD.out.2 t (hp.mem_iff.1 ht)⟩
      obtain ⟨a2, c2, e2, hI⟩ := ho'.isTerms hss
      injection e2 with ea en ec
      subst ea ec
      rw [en] at ho'
      have HI := Lib.hid hI
      have HO2 := Lib.hid ho'
      have hb2w : Below w.heap.size w w2 := hB.trans (hb2.mono (by have := hs0; omega))
      have HB2 := Lib.hid hb2w
      have hser : serB ss = r := by rw [hsc, serB_canon (canon_of ts)]; exact HBB.out
      have HSB := Lib.hid hser
      have HSC := Lib.hid hsc
      clear hp hso ho ho' hss hI hb2 hb2w hser hsc hlen
      go_wp2_with fail
      refine (iSeriesIn_is a1 c1 _ ss r w2 HI.out HSB.out).mono ?_
      rintro e w3 ⟨rfl, hb3⟩
      have HB3 := Lib.hid hb3
      clear hb3
      cases r
      · go_wp2
        go_ret2
        exact ⟨⟨_, rfl, ownNil _ _⟩, HB2.out.trans (HB3.out.mono HB2.out.size)⟩
      · go_wp2
        go_ret2
        refine ⟨⟨_, rfl, ?_⟩, HB2.out.trans (HB3.out.mono HB2.out.size)⟩
        rw [show cond true (canonT ts) [] = canonT ts from rfl, ← HSC.out]
        exact (HO2.out.below HB3.out).mono (by omega)
    · intro c s w1 cnt1 hmem hrg1 hlt hg1 hs1 hen
      have hB1 : Below w.heap.size w w1 := hB.grown hg1 hB.size (fun k e => by cases e; exact Nat.le_refl _)
      have ho1 : OwnT w0.heap.size w1 u4 (nzT2 done) := HO.out.kept hg1 (.inr fun e => by have := hlow0.out _ e; omega)
      have hsn := nzT2_snoc done c s
      have HO1 := Lib.hid ho1
      have HM := Lib.hid hmem
      have HR1 := Lib.hid hrg1
      have hl1 := hrg1.cnt
      clear hrg ho1 hmem hrg1 hg1
      by_cases hc0 : c = 0
      · rw [if_pos hc0] at hsn
        have hdc : (c == 0) = true := by simpa using hc0
        clear hc0
        have HSN := Lib.hid hsn
        clear hsn
        go_wp2
        go_roundw
        case rel => exact ⟨_, cnt1, HR1.out, Lib.hid (by rw [HSN.out]; exact HO1.out), by omega, hB1⟩
        case measure => rw [hl1, hcl]; exact hlt
      · rw [if_neg hc0] at hsn
        have hdc : (c == 0) = false := by simpa using hc0
        clear hc0
        have HSN := Lib.hid hsn
        clear hsn
        obtain ⟨N, hN⟩ : ∃ N, (nzT2 done).length = N := ⟨_, rfl⟩
        have hown : w1.ownsRow w0.heap.size TI 2 u4 N (termsV (nzT2 done)) := by rw [← hN]; exact HO1.out
        have HOW := Lib.hid hown
        have hNl : N ≤ 1000 := by have := List.length_filter_le (fun t : Tm => !(t.c == 0)) done; rw [← hN]; unfold nzT2; omega
        have HN := Lib.hid hN
        have hblt := hbl
        have hle01 : w0.heap.size ≤ w1.heap.size := by omega
        have HS1 := Lib.hid hs1
        clear hown hN HO1 hs1
        go_wp2_with (at_builtin; refine wpList_append_lies _ rfl _ _ _ rfl w0.heap.size TI i0 _ 2 24 Tryz.underlying33 hi hz0 hz1 hz2 rfl (by omega) u4 N (termsV (nzT2 done)) rfl (HOW.out.alloc _) ⟨w1.heap.size, 0, none⟩ 1 1 [.int .i64 c, .string s] rfl rfl (World.news_of_block (cs := #[.int .i64 c, .string s]) (t := TI) (fr := (0, 0)) (heap_alloc_new w1 _)) (by simp [Value.oneCell']) (by omega) (by unfold maxLen; omega) (by omega) (by simp; omega) (w1.heap.size + 1) (by simp) ?_; intro gg cap1 w7 hown7 hgrow7 hat hlt7)
        have hs1 := HS1.out
        have hlow := ownsRow_low HOW.out
        have hbA : Below w1.heap.size w1 (w1.alloc (.cells #[.int .i64 c, .string s] TI)) := (Below.refl _ w1).alloc (Nat.le_refl _) _
        have hR7 : RangeT w7 b w.heap.size ts (done ++ [⟨c, s⟩]) cnt1 := (HR1.out.kept (grown_of_below hbA) (by simp) (by simp)).kept hgrow7 (fun e => by have := hlow _ e.symm; omega) (fun e => by have := hlow _ e.symm; omega)
        have hB7 : Below w.heap.size w w7 := (hB1.trans (hbA.mono hB1.size)).grown hgrow7 (by simp; omega) (fun k e => by have := hlow _ e; omega)
        have hs7 : w0.heap.size ≤ w7.heap.size := by have := hgrow7.size; simp at this; omega
        have HO7 := Lib.hid hown7
        have HR7 := Lib.hid hR7
        have hl7 := hR7.cnt
        clear hown7 hgrow7 hat hlt7 hlow hbA hR7
        go_wp2
        go_roundw
        case rel =>
          refine ⟨_, cnt1, HR7.out, Lib.hid ?_, hs7, hB7⟩
          rw [HSN.out]
          unfold OwnT
          rw [List.length_append, HN.out, termsV_append]
          exact HO7.out
        case measure => rw [hl7, hcl]; exact hlt

end Go.Proofs.YtfhlceggihodeaaGreat

/- The contracts of the program's 'series' of a word and of 'SeriesOf'. -/

namespace Go.Proofs.YtfhlceggihodeaaGreat
open Go.RowKit Go.Shelf

attribute [local go_sem] Oper.semAt_some

theorem serW_bnd {us : List Tm} {l : List UInt8} (ha : Apart us) (hl : letL l = true) (h60 : l.length ≤ 60) (hq : ∀ q, coefAt q us = coefAt q (serW l)) : BndT 1000000 us := by
  have hok := serW_ok l hl
  refine apart_bnd ha (fun t ht => ?_) (by omega)
  rw [canon_same hq, canon_id hok.canon] at ht
  exact ((hok.ser h60).2 t ht).2
theorem letS_bnd {c : UInt8} (hc : letB c = true) : BndT 1000000 (letS c) := fun t ht => by have := (letS_ok hc).1 t ht; omega
theorem letS_mono {c : UInt8} (hc : letB c = true) : MonoT (letS c) := fun t ht => ((letS_ok hc).1 t ht).1

set_option maxRecDepth 100000 in
set_option maxHeartbeats 4000000 in
theorem wordSeries_in (n : Nat) (hn : 60 ≤ n) (g k cap : Nat) (L : List UInt8) (w : World) (hk : L.length = k) (hk60 : k ≤ 60) (hL : letL L = true) (hw : IsWord w.heap.size w (.slice (some ⟨g, 0, none⟩) k cap) L) :
    CallsIn Fence.wide n Tryz.prog 32 #[.slice (some ⟨g, 0, none⟩) k cap] w fun e w' =>
      ∃ b us, e = .returned (.map (some b)) ∧ w.heap.size ≤ b ∧ MapT w' b us ∧ MonoT us ∧ (∀ q, coefAt q us = coefAt q (serW L)) ∧ Below w.heap.size w w' := by
  have H2 := Lib.hid hL
  have HKL := Lib.hid hk
  have HW := Lib.hid hw
  clear hL hk hw
  refine callsIn_of_wp_marks Tryz.func32 rfl trivial ?_ rfl
  simp only [Tryz.ntmps32, List.size_toArray, List.length_cons, List.length_nil, Nat.reduceAdd, Nat.reduceSub, Array.replicate_succ, Array.replicate_zero, List.push_toArray, List.append_toArray, List.nil_append, List.cons_append]
  gi_wp2_with fail
  refine ⟨trivial, fun _ => by omega, ?_⟩
  refine (callsIn_wide.2 (oneSeries_any _)).mono ?_
  rintro e w1 ⟨⟨mb, rfl, hlo, hM⟩, hb1⟩
  have hmlt := hM.lt
  have HM := Lib.hid hM
  have HB1 := Lib.hid hb1
  have hs1 := hb1.size
  clear hM hb1
  gi_wp2_with fail
  refine ⟨trivial, fun _ => by omega, ?_⟩
  refine (callsIn_wide.2 (letters_fwd _ _ _ 1 _ (by decide))).mono ?_
  rintro e w3 ⟨rfl, rfl⟩
  have hbx := (Boxed.new w1 SerT (.map (some mb))).alloc (.cells #[.slice (some ⟨g, 0, none⟩) k cap] WT)
  have hbi := Boxed.new (w1.alloc (.cells #[.map (some mb)] SerT)) WT (.slice (some ⟨g, 0, none⟩) k cap)
  have hBv : Below w1.heap.size w1 ((w1.alloc (.cells #[.map (some mb)] SerT)).alloc (.cells #[.slice (some ⟨g, 0, none⟩) k cap] WT)) := ((Below.refl _ w1).alloc (Nat.le_refl _) _).alloc (by simp) _
  have hsz : ((w1.alloc (.cells #[.map (some mb)] SerT)).alloc (.cells #[.slice (some ⟨g, 0, none⟩) k cap] WT)).heap.size = w1.heap.size + 2 := by simp
  simp only [World.size_alloc] at hbx hbi ⊢
  generalize ((w1.alloc (.cells #[.map (some mb)] SerT)).alloc (.cells #[.slice (some ⟨g, 0, none⟩) k cap] WT)) = V at hbx hbi hBv hsz ⊢
  have hBV : Below w.heap.size w V := HB1.out.trans (hBv.mono hs1)
  have HWV := Lib.hid (HW.out.below hBV)
  have HMV := Lib.hid (HM.out.below hBv)
  have HBX := Lib.hid hbx
  have HBI := Lib.hid hbi
  have HBV := Lib.hid hBV
  clear hbx hbi hBV hBv
  gi_wp2_with fail
  refine range_values (by omega) (Bs := w1.heap.size + 1) rfl (n₀ := w.heap.size) (L := L) (by omega) HBI.out.cell HWV.out (by omega)
    (fun pre X => (Boxed X w1.heap.size SerT (.map (some mb)) ∧ ∃ us, MapT X mb us ∧ MonoT us ∧ ∀ q, coefAt q us = coefAt q (serW pre)) ∧ Below w.heap.size w X)
    (OwnFrom.and (OwnFrom.and (Own.from (fun s A B row hs hg hr => boxed_own w1.heap.size _ (fun _ : Unit => .map (some mb)) () A B row hs hg hr) _)
      (fun s A B row ⟨us, h1, h2⟩ hg hr => ⟨us, h1.kept hg (fun e => by have := (hr mb e.symm).1; omega), h2⟩)) (ownFrom_below (by omega) (by omega)))
    ⟨⟨HBX.out, _, HMV.out, fun t ht => by rw [List.mem_singleton.1 ht]; decide, fun _ => rfl⟩, HBV.out⟩
    (fun x => { tmps := #[.slice (some ⟨g, 0, none⟩) k cap, undef, .map none, .pointer (some ⟨w1.heap.size, 0, none⟩), .int .u8 (x.toNat : Int), .map (some mb), .slice (some ⟨g, 0, none⟩) k cap, .func (.func FV) #[] #[.pointer (some ⟨w1.heap.size + 1, 0, none⟩)], .int .u8 (x.toNat : Int), undef, undef, undef, undef, undef], defers := [] }) ?assign ?body ?done
  case assign =>
    intro l x W K hK
    gi_wp2
    exact hK
  case body =>
    rintro l pre x W ⟨⟨hbx, us, hT, mU, hq⟩, hB⟩ hpre
    have hlet : letB x = true := List.all_eq_true.1 H2.out x (prefix_mem hpre)
    have hlp : letL pre = true := letL_of_mem _ _ H2.out (fun c hc => hpre.subset (by simp [hc]))
    have hplen := prefix_len hpre
    rw [HKL.out] at hplen
    have hbd := serW_bnd hT.apart hlp (by omega) hq
    have hstep : ∀ q, coefAt q (pairsS us (letS x)) = coefAt q (serW (pre ++ [x])) := fun q => by rw [serW_snoc, (canonT_spec _).2, pairs_same1 hq]
    have HLS : Hid (∀ X, Calls Tryz.prog 56 #[.int .u8 (x.toNat : Int)] X fun e w' => ∃ b, e = .returned (.map (some b)) ∧ X.heap.size ≤ b ∧ MapT w' b (letS x) ∧ Below X.heap.size X w') := Lib.hid fun X => letterSeries_any x X hlet
    have HTM : Hid (∀ (b2 : Nat) (X : World), mb ≠ b2 → MapT X mb us → MapT X b2 (letS x) → Calls Tryz.prog 55 #[.map (some mb), .map (some b2)] X fun e w' => e = .returned (.tuple #[]) ∧ (∃ ts, MapT w' mb ts ∧ MonoT ts ∧ ∀ q, coefAt q ts = coefAt q (serW (pre ++ [x]))) ∧ X.grownBy w' (some mb)) :=
      Lib.hid fun b2 X hne h1 h2 => (times_any mb b2 us (letS x) X hne h1 h2 mU (letS_mono hlet) hbd (letS_bnd hlet)).mono fun e w' ⟨e1, ⟨ts, h1, h2, h3⟩, h4⟩ => ⟨e1, ⟨ts, h1, h2, fun q => by rw [h3, hstep]⟩, h4⟩
    have hmW := hT.lt
    have HT := Lib.hid hT
    have HBX2 := Lib.hid hbx
    have HB := Lib.hid hB
    have hws := hB.size
    have hc3 := hbx.cell
    have hbl := hbx.lt
    clear hT mU hq hbd hstep hlet hlp hbx hB hpre
    gi_wp2
    refine wpIn_region_any (by kernel_rfl) ?_
    change wpAnyIn _ _ _ _ _ _ _ _ _ (World.drew _)
    obtain ⟨S2, hS2⟩ : ∃ S2 : Value → World → Prop, S2 = fun v X => ∃ b2, v = .map (some b2) ∧ W.heap.size ≤ b2 ∧ MapT X b2 (letS x) ∧ Below W.heap.size W X := ⟨_, rfl⟩
    obtain ⟨S3, hS3⟩ : ∃ S3 : World → Prop, S3 = fun X => (∃ ts, MapT X mb ts ∧ MonoT ts ∧ ∀ q, coefAt q ts = coefAt q (serW (pre ++ [x]))) ∧ W.grownBy X (some mb) := ⟨_, rfl⟩
    refine wpAnyIn_inv (fun listed a X => ∃ (b0 b1 b2 b3 : Bool) (t9 t10 t11 t12 : Value), listed = #[b0, b1, b2, b3] ∧ a = { tmps := #[.slice (some ⟨g, 0, none⟩) k cap, undef, .map none, .pointer (some ⟨w1.heap.size, 0, none⟩), .int .u8 (x.toNat : Int), .map (some mb), .slice (some ⟨g, 0, none⟩) k cap, .func (.func FV) #[] #[.pointer (some ⟨w1.heap.size + 1, 0, none⟩)], .int .u8 (x.toNat : Int), t9, t10, t11, t12, undef], defers := [] } ∧
      ((b0 = true → t9 = .map (some mb)) ∧ (b1 = true → t10 = .int .u8 (x.toNat : Int))) ∧
      ((b2 = true → b1 = true) ∧ (b3 = true → b2 = true ∧ b0 = true)) ∧
      ((b2 = false → X = W.drew) ∧ (b2 = true → b3 = false → S2 t11 X) ∧ (b3 = true → S3 X))) ?step ?rdone _ _ _ _ (by decide) ?init
    case init =>
      exact ⟨false, false, false, false, undef, undef, undef, undef, rfl, rfl, by simp, by simp, by simp⟩
    case step =>
      rintro listed a X i ⟨b0, b1, b2, b3, t9, t10, t11, t12, rfl, rfl, ⟨v0, v1⟩, ⟨c2, c3⟩, ⟨x0, x1, x2⟩⟩ hun hdep hi
      have hi' : i = 0 ∨ i = 1 ∨ i = 2 ∨ i = 3 := by
        have : i < 4 := hi
        omega
      rcases hi' with rfl | rfl | rfl | rfl
      · -- the map is loaded
        obtain rfl : b0 = false := hun
        have hx : X.cell? ⟨w1.heap.size, 0, none⟩ = some (.map (some mb)) := by
          cases b2 with
          | false => rw [x0 rfl]; exact hc3
          | true =>
            cases b3 with
            | false =>
              have h := x1 rfl rfl
              rw [hS2] at h
              obtain ⟨_, _, _, _, hb⟩ := h
              exact (hb.cell (p := ⟨w1.heap.size, 0, none⟩) hbl).trans hc3
            | true => have := (c3 rfl).2; cases this
        refine wpOpIn_step rfl (fun K' hK => ?_)
        go_simp
        refine hK _ _ ⟨true, _, _, _, _, _, _, _, rfl, rfl, ⟨fun _ => rfl, v1⟩, ⟨c2, fun h => ⟨(c3 h).1, rfl⟩⟩, ⟨x0, x1, x2⟩⟩
      · -- the letter
        obtain rfl : b1 = false := hun
        refine wpOpIn_step rfl (fun K' hK => ?_)
        go_simp
        refine hK _ _ ⟨_, true, _, _, _, _, _, _, rfl, rfl, ⟨v0, fun _ => rfl⟩, ⟨fun _ => rfl, c3⟩, ⟨x0, x1, x2⟩⟩
      · -- its series
        obtain rfl : b2 = false := hun
        obtain rfl : b1 = true := hdep _ rfl ⟨1, .data⟩ (by simp) rfl
        obtain rfl := v1 rfl
        obtain rfl := x0 rfl
        have q3 : b3 = false := by
          cases b3 with
          | false => rfl
          | true => have := (c3 rfl).1; cases this
        subst q3
        refine wpOpIn_step rfl (fun K' hK => ?_)
        go_simp
        refine ⟨trivial, fun _ => by omega, ?_⟩
        refine (CallsIn.inRound l (callsIn_wide.2 (HLS.out _))).mono ?_
        rintro e X' ⟨b, rfl, hb, hm, hbe⟩
        refine hK _ _ ⟨_, _, true, _, _, _, _, _, rfl, rfl, ⟨v0, fun _ => rfl⟩, ⟨fun _ => rfl, (fun h => nomatch h)⟩, ⟨(fun h => nomatch h), fun _ _ => ?_, (fun h => nomatch h)⟩⟩
        rw [hS2]
        exact ⟨b, rfl, hb, hm, (Below.refl _ W).drew.trans hbe⟩
      · -- the product
        obtain rfl : b3 = false := hun
        obtain rfl : b0 = true := hdep _ rfl ⟨0, .data⟩ (by simp) rfl
        obtain rfl : b2 = true := hdep _ rfl ⟨2, .data⟩ (by simp) rfl
        obtain rfl := v0 rfl
        have h := x1 rfl rfl
        rw [hS2] at h
        obtain ⟨bb, rfl, hbb, hm, hbe⟩ := h
        refine wpOpIn_step rfl (fun K' hK => ?_)
        go_simp
        refine ⟨trivial, fun _ => by omega, ?_⟩
        refine (CallsIn.inRound l (callsIn_wide.2 (HTM.out bb X (by omega) (HT.out.below hbe) hm))).mono ?_
        rintro e X' ⟨rfl, hts, hgr⟩
        refine hK _ _ ⟨_, _, _, true, _, _, _, _, rfl, rfl, ⟨fun _ => rfl, (by first | exact v1 | exact fun _ => rfl)⟩, ⟨c2, fun _ => ⟨rfl, rfl⟩⟩, ⟨(fun h => nomatch h), (fun _ h => nomatch h), fun _ => ?_⟩⟩
        rw [hS3]
        exact ⟨hts, ((grown_of_below hbe).but (some mb)).andThen hgr (fun j ej => by cases ej; exact Or.inr rfl)⟩
    case rdone =>
      rintro listed a X ⟨b0, b1, b2, b3, t9, t10, t11, t12, rfl, rfl, -, -, ⟨-, -, x2⟩⟩ hall
      have q0 : b0 = true := hall 0 _ rfl (fun e he => by simp at he)
      have q1 : b1 = true := hall 1 _ rfl (fun e he => by simp at he)
      have q2 : b2 = true := hall 2 _ rfl (by
        intro e he _
        simp at he
        rcases he with rfl
        all_goals first | exact q0 | exact q1)
      have q3 : b3 = true := hall 3 _ rfl (by
        intro e he _
        simp at he
        rcases he with rfl | rfl | rfl
        all_goals first | exact q0 | exact q1 | exact q2)
      have h := x2 q3
      rw [hS3] at h
      obtain ⟨hts, hgr⟩ := h
      have hbel : Below w.heap.size W X := (Below.refl _ W).grown hgr hws (fun j ej => by cases ej; omega)
      have hkf : KeepsFrom V.heap.size W X := KeepsFrom.of_grownBy hgr (fun j ej => by cases ej; omega)
      gi_wp2
      exact ⟨hkf, ⟨hbel, hkf⟩, ⟨HBX2.out.kept hgr (fun e => by cases e; omega), hts⟩, HB.out.trans hbel⟩
  case done =>
    rintro D W hD ⟨⟨hbx, us, hT, mU, hq⟩, hB⟩ hK
    have hDlt : D < W.heap.size := (Array.getElem?_eq_some_iff.1 hK).1
    have hc3 := hbx.cell
    have hws := hB.size
    have HK := Lib.hid hK
    have HB := Lib.hid hB
    have HF : Hid (MapT (W.putObj D (.deferred none)) mb us ∧ MonoT us ∧ ∀ q, coefAt q us = coefAt q (serW L)) := Lib.hid ⟨hT.kept (grownBy_putObj' W D (.deferred none)) (fun e => by cases e; omega), mU, hq⟩
    clear hK hB hT mU hq
    gi_wp2
    refine ⟨by simp, .inl ⟨_, _, rfl, run_takeDeferred HK.out, ?_⟩⟩
    refine ⟨.map (some mb), by simp [results, Tryz.f32, go_sem], mb, us, rfl, hlo, HF.out.1, HF.out.2.1, HF.out.2.2, ?_⟩
    exact HB.out.trans (belowK_b (w := w) (Nat.le_refl _) W D _ _ (by omega) HK.out rfl rfl)

/-! ### SeriesOf -/
set_option maxHeartbeats 2000000 in
theorem iSeriesOf_any (s : ByteArray) (b : Bool) (w : World) (hs : s.size ≤ maxLen) (hb : wordB s.data.toList = b) :
    Calls Tryz.prog 17 #[.string s] w (ITold w b (serW s.data.toList)) := by
  cases b with
  | false =>
    have HB := Lib.hid hb
    clear hb
    go_enter Tryz.func17, Tryz.ntmps17
    go_wp2_with fail
    refine (wordOf_no s _ hs HB.out).mono ?_
    rintro e w1 ⟨rfl, hb1⟩
    go_wp2
    go_ret2
    exact ⟨⟨_, rfl, ownNil _ _⟩, hb1⟩
  | true =>
    have HB := Lib.hid hb
    obtain ⟨h1, h2, _⟩ := (wordB_iff _).1 hb
    have hs60 : s.size ≤ 60 := by simpa using h1
    have HL := Lib.hid h2
    have HTW := Lib.hid (serW_tw hb rfl)
    have HOK := Lib.hid (serW_ok _ h2)
    clear hb h1 h2
    go_enter Tryz.func17, Tryz.ntmps17
    go_wp2_with fail
    refine (wordOf_yes s _ HB.out).mono ?_
    rintro e w1 ⟨g, cap, rfl, hown, hb1⟩
    have HW := Lib.hid (isWord_of_owns (n₀ := w1.heap.size) (l := s.data.toList) (by simp) (by omega) hown (Nat.le_refl _))
    have HB1 := Lib.hid hb1
    have hs1 := hb1.size
    clear hown hb1
    go_wp2_with fail
    refine ((callsIn_wide (n := 60)).1 (wordSeries_in 60 (by omega) g s.size cap s.data.toList w1 (by simp) hs60 HL.out HW.out)).mono ?_
    rintro e w2 ⟨mb, us, rfl, hlo, hT, mU, hq, hb2⟩
    have hlu := apart_len341 hT.apart mU
    have HC := Lib.hid (show canonT us = serW s.data.toList by rw [canon_same hq, canon_id HOK.out.canon])
    have HB2 := Lib.hid (HB1.out.trans (hb2.mono hs1))
    have hs2 := HB2.out.size
    have HT := Lib.hid hT
    clear hT mU hq hb2
    go_wp2_with fail
    refine (seriesTold_any mb us true _ HT.out (by omega) (by rw [HC.out]; exact HTW.out)).mono ?_
    rintro e w3 ⟨⟨v, rfl, ho⟩, hb3⟩
    rw [HC.out] at ho
    have HO := Lib.hid ho
    have HB3 := Lib.hid (HB2.out.trans (hb3.mono hs2))
    clear ho hb3
    go_wp2
    go_ret2
    exact ⟨⟨_, rfl, HO.out.mono hs2⟩, HB3.out⟩

/-! ### As a law wants them -/
theorem iSeriesOf_law {s : ByteArray} {b : Bool} {w : World} (hs : s.size ≤ maxLen) (hb : wordB s.data.toList = b) :
    Calls Tryz.prog 17 #[.string s] w (ITold w b (serW s.data.toList)) := iSeriesOf_any s b w hs hb

end Go.Proofs.YtfhlceggihodeaaGreat

/- The contracts of the program's 'SeriesCoef' and 'SeriesDepth'. -/

namespace Go.Proofs.YtfhlceggihodeaaGreat
open Go.RowKit Go.Shelf

set_option maxRecDepth 100000 in
set_option maxHeartbeats 4000000 in
theorem iSeriesCoef_any (s m : ByteArray) (b1 b2 : Bool) (z : Int) (b : Bool) (w : World) (hs : s.size ≤ maxLen) (hms : m.size ≤ maxLen) (h1 : wordB s.data.toList = b1) (h2 : monoB m = b2) (hz : cond (b1 && b2) (coefAt m (serW s.data.toList)) 0 = z) (hb : (b1 && b2) = b) :
    Calls Tryz.prog 7 #[.string s, .string m] w fun e w' => e = .returned (.tuple #[.int .i64 z, .bool b]) ∧ Below w.heap.size w w' := by
  have H2 := Lib.hid h2
  have HZ := Lib.hid hz
  have HB := Lib.hid hb
  have HS := Lib.hid (iSeriesOf_any s b1 w hs h1)
  have H1 := Lib.hid h1
  obtain ⟨ts, hts⟩ : ∃ ts, cond b1 (serW s.data.toList) [] = ts := ⟨_, rfl⟩
  obtain ⟨hsm, hlen⟩ := told_smallS (serW_tw h1) hts
  obtain ⟨n, hn⟩ : ∃ n, ts.length = n := ⟨_, rfl⟩
  have HTS := Lib.hid hts
  have HN := Lib.hid hn
  have HSM := Lib.hid hsm
  rw [hn] at hlen
  clear h1 h2 hz hb hts hsm hn
  go_enter Tryz.func7, Tryz.ntmps7
  go_wp2_with fail
  refine HS.out.mono ?_
  rintro e w1 ⟨⟨v1, rfl, ho1⟩, hb1⟩
  cases b1 with
  | false =>
    obtain rfl : b = false := HB.out.symm
    obtain rfl : z = 0 := HZ.out.symm
    clear ho1
    go_wp2
    go_ret2
    exact ⟨rfl, hb1⟩
  | true =>
    have ho1 : OwnT w.heap.size w1 v1 (serW s.data.toList) := ho1
    have hts : serW s.data.toList = ts := HTS.out
    rw [hts] at ho1
    obtain ⟨a1, c1, rfl, hI1⟩ := ho1.isTerms HSM.out
    rw [HN.out] at hI1 ⊢
    have HI := Lib.hid hI1
    have HCa : Hid (Canon ts) := Lib.hid (by
      obtain ⟨p1, p2, _⟩ := (wordB_iff _).1 H1.out
      rw [← hts]; exact (serW_ok _ p2).canon)
    have HT := Lib.hid hts
    have HB1 := Lib.hid hb1
    clear ho1 hI1 hts hb1
    go_wp2_with fail
    refine (known4_is m b2 _ hms H2.out).mono ?_
    rintro e w2 ⟨rfl, hb2⟩
    have HB2 := Lib.hid (HB1.out.trans (hb2.mono HB1.out.size))
    have HI2 := Lib.hid (HI.out.below hb2)
    clear hb2
    cases b2 with
    | false =>
      obtain rfl : b = false := HB.out.symm
      obtain rfl : z = 0 := HZ.out.symm
      go_wp2
      go_ret2
      exact ⟨rfl, HB2.out⟩
    | true =>
      obtain rfl : b = true := HB.out.symm
      have HZ2 : Hid (coefAt m ts = z) := Lib.hid (by rw [← HT.out]; exact HZ.out)
      go_wp2
      go_loopw [24] (fun i wr => ∃ k : Nat, k ≤ n ∧ i = .int .i64 k ∧ Hid (∀ j (h : j < ts.length), j < k → ts[j].s ≠ m) ∧ Below w2.heap.size w2 wr) (fun i _ => n - (intOf i).toNat)
      case atStart => exact ⟨0, Nat.zero_le _, rfl, Lib.hid (fun j _ h => absurd h (Nat.not_lt_zero _)), Below.refl _ _⟩
      case round =>
        obtain ⟨k, hk, rfl, HJ, hBr⟩ := hrel
        have hB2r := HB2.out.trans (hBr.mono HB2.out.size)
        by_cases hlt : k < n
        · have hkx : k < ts.length := by rw [HN.out]; exact hlt
          obtain ⟨x, rfl, hx⟩ := HI2.out.at_ (by omega)
          obtain ⟨t, ht⟩ : ∃ t, ts[k] = t := ⟨_, rfl⟩
          have hc := (hx.below hBr).2 k hkx
          rw [ht, addr_next] at hc
          obtain ⟨c0, d1⟩ := hc
          have HBR := Lib.hid (hBr.alloc hBr.size (.cells #[.int .i64 t.c, .string t.s] TI))
          have HBW := Lib.hid (hB2r.alloc hB2r.size (.cells #[.int .i64 t.c, .string t.s] TI))
          by_cases hm : t.s = m
          · have hq : (t.s.toList == m.toList) = true := by rw [bytes_beq, hm]; simp
            have hret : t.c = z := by rw [← HZ2.out, ← hm]; exact (coefAt_get HCa.out (by rw [← ht]; exact List.getElem_mem hkx)).symm
            subst hret
            clear hm ht hx hBr hB2r
            go_wp2
            go_ret2
            exact ⟨rfl, HBW.out⟩
          · have hq : (t.s.toList == m.toList) = false := by rw [bytes_beq]; exact decide_eq_false fun e => hm (bytes_ext e)
            have HNe := Lib.hid hm
            have HT2 := Lib.hid ht
            clear hm ht hx hBr hB2r
            go_wp2
            go_roundw
            case rel =>
              refine ⟨k + 1, by omega, by go_num, Lib.hid fun j hj hjk => ?_, HBR.out⟩
              by_cases e : j = k
              · subst e; rw [HT2.out]; exact HNe.out
              · exact HJ.out j hj (by omega)
            case measure => simp [intOf]; omega
        · obtain rfl : k = n := by omega
          have hz0 : z = 0 := by
            rw [← HZ2.out]
            refine coefAt_none fun t ht => ?_
            obtain ⟨j, hj, rfl⟩ := List.getElem_of_mem ht
            exact HJ.out j hj (by rw [← HN.out]; exact hj)
          subst hz0
          go_wp2
          go_ret2
          exact ⟨rfl, hB2r⟩

end Go.Proofs.YtfhlceggihodeaaGreat

/- The contract of the program's 'beginnings'. -/

namespace Go.Proofs.YtfhlceggihodeaaGreat
open Go.RowKit Go.Shelf

theorem row_heap {w : World} {base : Nat} {e : TypeId} {g n : Nat} {xs : List Value} (h : w.ownsRow base e 1 (.slice (some ⟨g, 0, none⟩) n n) n xs) : w.heap[g]? = some (.cells xs.toArray e (0, 0)) := by
  rcases h.2 with ⟨h2, _⟩ | ⟨g', cap, cur, h2, _, hgb, _, _, hcs, htk⟩
  · cases h2
  · cases h2
    rw [hgb]
    have e2 : cur.toList.take (n * 1) = cur.toList := List.take_of_length_le (by simp [hcs])
    rw [e2] at htk
    rw [← htk]
theorem letters_heap {w : World} {g : Nat} {l : List UInt8} {e : TypeId} (h : w.heap[g]? = some (.cells (bytesV l).toArray e (0, 0))) : Letters g 0 l w :=
  ⟨(Array.getElem?_eq_some_iff.1 h).1, fun j hj => by
    unfold World.cell?
    simp only [h]
    simp [bytesV, hj]⟩

/-- A row of all beginnings of the letters l, over one array. -/
def StartsAt (w : World) (B : Nat) (l : List UInt8) : Prop :=
  B < w.heap.size ∧ ∃ G, Letters G 0 l w ∧ ∀ j, j ≤ l.length → w.cell? ⟨B, j, none⟩ = some (.slice (some ⟨G, 0, none⟩) j j)
theorem StartsAt.below {w w' : World} {B : Nat} {l : List UInt8} (h : StartsAt w B l) (hb : Below w.heap.size w w') : StartsAt w' B l := by
  obtain ⟨h1, G, h2, h3⟩ := h
  exact ⟨Nat.lt_of_lt_of_le h1 hb.size, G, h2.below hb, fun j hj => (hb.cell (p := ⟨B, j, none⟩) h1).trans (h3 j hj)⟩
theorem Letters.take {g off : Nat} {l : List UInt8} {w : World} (h : Letters g off l w) (k : Nat) : Letters g off (l.take k) w :=
  ⟨h.1, fun j hj => by
    rw [List.getElem_take]
    exact h.2 j (by rw [List.length_take] at hj; omega)⟩

theorem infoLetter : (Tryz.prog.info? 69).map (fun i => (i.zero, i.size, i.bytes)) = some (some (.int .u8 0), 1, 1) := by kernel_rfl

set_option maxRecDepth 100000 in
set_option maxHeartbeats 2000000 in
theorem beginnings_any (g off cap n : Nat) (l : List UInt8) (w : World) (hl : l.length = n) (hn : n ≤ 60) (hlet : Letters g off l w) :
    Calls Tryz.prog 43 #[.slice (some ⟨g, off, none⟩) n cap] w fun e w' => ∃ B, e = .returned (.slice (some ⟨B, 0, none⟩) (n + 1 : Nat) (n + 1 : Nat)) ∧ StartsAt w' B l ∧ Below w.heap.size w w' := by
  obtain ⟨hgs, hcells⟩ := hlet
  have HCe := Lib.hid hcells
  have HL := Lib.hid hl
  clear hcells hl
  obtain ⟨i0, hi, hz0, hz1, hz2⟩ := info_parts infoLetter
  obtain ⟨j0, hj, hy0, hy1, hy2⟩ := info_parts infoWord
  have hone : (Tryz.prog.info? 69).map (·.size) = some 1 := by kernel_rfl
  obtain ⟨bl, hbl⟩ : ∃ bl, bytesV l = bl := ⟨_, rfl⟩
  have HBL := Lib.hid hbl
  have hbn : bl.length = n := by rw [← hbl, bytesV_length, HL.out]
  clear hbl
  go_enter Tryz.func43, Tryz.ntmps43
  have hmk : (madeCells (Value.cells (.int .u8 0)) (n * 1)).toList = List.replicate n (.int .u8 0) := by
    rw [show Value.cells (.int .u8 0) = #[.int .u8 0] from rfl, toList_madeCells_one, Nat.mul_one]
  have hsrc : ∀ w1, Below w.heap.size w w1 → ∀ j v, bl[j]? = some v → w1.cell? ((⟨g, off, none⟩ : Addr).add j) = some v := fun w1 hb1 j v hv => by
    rw [← HBL.out] at hv
    have hjl : j < l.length := by have := (List.getElem?_eq_some_iff.1 hv).1; rwa [bytesV_length] at this
    have hc := (hb1.cell (p := ⟨g, off + j, none⟩) hgs).trans (HCe.out j hjl)
    rw [show (⟨g, off, none⟩ : Addr).add j = ⟨g, off + j, none⟩ by unfold Addr.add; split <;> simp_all]
    rw [hc]
    simp [bytesV, hjl] at hv
    rw [hv]
  have h1c : ∀ v ∈ bl, v.oneCell' = true := fun v hv => by
    rw [← HBL.out] at hv
    unfold bytesV at hv
    obtain ⟨c, _, rfl⟩ := List.mem_map.1 hv
    rfl
  have HMK := Lib.hid hmk
  have HSRC := Lib.hid hsrc
  have H1C := Lib.hid h1c
  clear hsrc h1c hmk
  go_wp2_with (first | (refine wpList_copy_splice rfl _ _ _ _ rfl 69 Tryz.underlying52 hone _ _ n n n cap rfl rfl w.heap.size 0 (List.replicate n (.int .u8 0)) 69 HH1.out bl (by rw [hbn]; exact (Nat.min_self n).symm) (fun _ => ⟨rfl, _, rfl, HSRC.out _ HB1.out⟩) (by simp [hbn]) H1C.out w.heap.size w HB1.out (Nat.le_refl _) ?_; intro w2 hg2 hb2) | (at_make; refine wpList_make_full _ rfl _ _ 52 rfl w.heap.size 69 i0 (.int .u8 0) 1 Tryz.underlying52 hi hz0 hz1 .i64 .i64 _ _ n rfl rfl rfl rfl (by rw [hz2]; omega) (by unfold maxLen; omega) (Nat.le_refl _) ?_; intro w1 hrow hgrow; rw [HMK.out] at hrow; have HH1 := Lib.hid (row_heap hrow); have HB1 : Hid (Below w.heap.size w w1) := Lib.hid ((Below.refl _ _).grown hgrow (Nat.le_refl _) (fun k e => by cases e)); clear hrow hgrow) | (at_make; refine wpList_make_full _ rfl _ _ 48 rfl w2.heap.size 52 j0 (.slice none 0 0) 1 Tryz.underlying48 hj hy0 hy1 .i64 .i64 _ _ (n + 1) rfl rfl rfl rfl (by rw [hy2]; omega) (by unfold maxLen; omega) (Nat.le_refl _) ?_; intro w3 hrow hgrow))
  have hsp : splice (List.replicate n (Value.int .u8 0)) 0 bl = bl := by unfold splice; simp [hbn]
  rw [hsp, ← HBL.out] at hg2
  have HG := Lib.hid (letters_heap hg2.out)
  clear hg2 hsp
  have hb3 : Below w2.heap.size w2 w3 := (Below.refl _ _).grown hgrow (Nat.le_refl _) (fun k e => by cases e)
  have hs3 := (ownsRow_cap hrow).2.2.2
  have HR3 := Lib.hid hrow
  clear hrow hgrow
  go_wp2_with fail
  go_loopw [18] (fun i wr => ∃ (k : Nat) (vals : List Value), k ≤ n + 1 ∧ i = .int .i64 k ∧ Hid (wr.ownsRow w2.heap.size WT 1 (.slice (some ⟨w2.heap.size, 0, none⟩) (n + 1) (n + 1)) (n + 1) vals) ∧ Hid (∀ j, j < k → vals[j]? = some (.slice (some ⟨w.heap.size, 0, none⟩) j j)) ∧ Below w2.heap.size w2 wr)
    (fun i _ => n + 1 - (intOf i).toNat)
  case atStart => exact ⟨0, _, Nat.zero_le _, rfl, HR3, Lib.hid (fun j h => absurd h (Nat.not_lt_zero _)), hb3⟩
  case round =>
    obtain ⟨k, vals, hk, rfl, HR, HV, hB⟩ := hrel
    by_cases hlt : k < n + 1
    · have hl := HR.out.1
      rw [Nat.mul_one] at hl
      have hd : ∃ u, wr.cell? ⟨w2.heap.size, k, none⟩ = some u := by rw [HR.out.cellAt k (by omega)]; exact ⟨_, List.getElem?_eq_getElem (by omega)⟩
      obtain ⟨u, hu⟩ := hd
      have hfr := HR.out.frozenAt k
      have hkn : k ≤ n := by omega
      go_wp2
      go_roundw
      case rel =>
        have hst := HR.out.stored k (.slice (some ⟨w.heap.size, 0, none⟩) k k)
        refine ⟨k + 1, _, by omega, by go_num, Lib.hid hst.1, Lib.hid ?_, hB.setCell (p := ⟨w2.heap.size, k, none⟩) (Nat.le_refl _) _⟩
        intro j hj
        by_cases hjk : j = k
        · subst hjk; rw [List.getElem?_set_self (by omega)]
        · rw [List.getElem?_set_ne (by omega)]; exact HV.out j (by omega)
      case measure => simp [intOf]; omega
    · obtain rfl : k = n + 1 := by omega
      go_wp2_with fail
      go_ret
      refine ⟨w2.heap.size, rfl, ⟨(ownsRow_cap HR.out).2.2.2, w.heap.size, HG.out.below hB, fun j hj => ?_⟩, hb2.trans (hB.mono hb2.size)⟩
      rw [HR.out.cellAt j (by have := HL.out; omega)]
      exact HV.out j (by have := HL.out; omega)

end Go.Proofs.YtfhlceggihodeaaGreat

/- The contracts of the laws' 'markTermS' and 'heldTermS'. -/

namespace Go.Proofs.YtfhlceggihodeaaGreat
open Go.RowKit Go.Shelf

def markT (k i : Nat) : Tm := ⟨((k + 2 * i : Nat) : Int), mkS (k + 2 * i + 1)⟩
/-- The marks from k on. -/
def marksT (k n : Nat) : List Tm := (List.range n).map (markT k)
theorem marksT_len (k n : Nat) : (marksT k n).length = n := by simp [marksT]
theorem marksT_get (k n i : Nat) (h : i < (marksT k n).length) : (marksT k n)[i] = markT k i := by simp [marksT]
theorem marksT_set (k j n : Nat) (us : List Tm) (hl : us.length = n) (hj : j < n) : (marksT k j ++ us.drop j).set j (markT k j) = marksT k (j + 1) ++ us.drop (j + 1) := by
  rw [List.set_append_right _ _ (by rw [marksT_len]; exact Nat.le_refl _), marksT_len, Nat.sub_self, List.drop_eq_getElem_cons (by omega : j < us.length), List.set_cons_zero]
  unfold marksT
  rw [List.range_succ, List.map_append, List.append_assoc]
  rfl

theorem ownsRow_past {w w' : World} {base : Nat} {e : TypeId} {size : Nat} {v : Value} {n : Nat} {xs : List Value} (h : w.ownsRow base e size v n xs) (hb : Below w.heap.size w w') : w'.ownsRow base e size v n xs :=
  h.kept ⟨hb.os, hb.tape, hb.output, hb.size, fun j hj _ => hb.block j hj⟩ (row := none) (by
    rcases h.2 with ⟨rfl, _⟩ | ⟨g, cap, cur, rfl, _⟩
    · exact .inl rfl
    · exact .inr (by simp [Value.ownBlock]))
theorem marksT_row (k j n : Nat) (us : List Tm) (hl : us.length = n) (hj : j < n) :
    ((termsV (marksT k j ++ us.drop j)).set (j * 2) (.int .i64 ((k + 2 * j : Nat) : Int))).set (j * 2 + 1) (.string (mkS (k + 2 * j + 1))) = termsV (marksT k (j + 1) ++ us.drop (j + 1)) := by
  rw [← marksT_set k j n us hl hj]
  exact set_terms _ j (markT k j) (by rw [List.length_append, marksT_len, List.length_drop]; omega)

theorem grown_trans {a b c : World} {row : Option Nat} (h : a.grownBy b row) (k : b.grownBy c row) : a.grownBy c row :=
  ⟨k.os.trans h.os, k.tape.trans h.tape, k.output.trans h.output, Nat.le_trans h.size k.size, fun i hi hne => (k.block i (Nat.lt_of_lt_of_le hi h.size) hne).trans (h.block i hi hne)⟩
theorem grown_refl (a : World) (row : Option Nat) : a.grownBy a row := ⟨rfl, rfl, rfl, Nat.le_refl _, fun _ _ _ => rfl⟩
theorem grown_below {a b : World} (row : Option Nat) (h : Below a.heap.size a b) : a.grownBy b row := ⟨h.os, h.tape, h.output, h.size, fun i hi _ => h.block i hi⟩
theorem mkB_size : ∀ (m : Nat) (t : ByteArray), (mkB m t).size ≤ t.size + m := by
  intro m
  induction m using Nat.strongRecOn with
  | _ m ih =>
    intro t
    by_cases h : m = 0
    · subst h; rw [mkB_zero]; exact Nat.le_refl _
    · rw [← mkB_step h]
      have h1 := ih (m / 10) (by omega) (⟨#[UInt8.ofNat (48 + m % 10)]⟩ ++ t)
      have h2 : ((⟨#[UInt8.ofNat (48 + m % 10)]⟩ : ByteArray) ++ t).size = 1 + t.size := by simp [ByteArray.size_append]; rfl
      omega
theorem mkS_size (k : Nat) : (mkS k).size ≤ k + 1 := by
  have h := mkB_size k ⟨#[]⟩
  have h0 : (⟨#[]⟩ : ByteArray).size = 0 := rfl
  have h1 : (mkS k).size = 1 + (mkB k ⟨#[]⟩).size := by unfold mkS; simp [ByteArray.size_append]; rfl
  omega
theorem marksT_small (k n : Nat) (hk : k ≤ 1000000) (hn : n ≤ 1048576) : SmallT (marksT k n) :=
  ⟨by rw [marksT_len]; unfold maxLen; omega, fun t ht => by
    unfold marksT at ht
    obtain ⟨i, hi, rfl⟩ := List.mem_map.1 ht
    have hi := List.mem_range.1 hi
    have := mkS_size (k + 2 * i + 1)
    unfold markT maxLen
    dsimp only
    omega⟩

def marksS (k n : Nat) : List ByteArray := (List.range n).map fun i => mkS (k + i)
theorem marksS_len (k n : Nat) : (marksS k n).length = n := by simp [marksS]
theorem marksS_set (k j n : Nat) (us : List ByteArray) (hl : us.length = n) (hj : j < n) : (strsV (marksS k j ++ us.drop j)).set j (.string (mkS (k + j))) = strsV (marksS k (j + 1) ++ us.drop (j + 1)) := by
  have h1 : (marksS k j ++ us.drop j).set j (mkS (k + j)) = marksS k (j + 1) ++ us.drop (j + 1) := by
    rw [List.set_append_right _ _ (by rw [marksS_len]; exact Nat.le_refl _), marksS_len, Nat.sub_self, List.drop_eq_getElem_cons (by omega : j < us.length), List.set_cons_zero]
    unfold marksS
    rw [List.range_succ, List.map_append, List.append_assoc]
    rfl
  rw [← h1]
  unfold strsV
  rw [List.map_set]
def OwnS (base : Nat) (w : World) (v : Value) (zs : List ByteArray) : Prop := w.ownsRow base 9 1 v zs.length (strsV zs)
theorem OwnS.below {base : Nat} {w w' : World} {v : Value} {zs : List ByteArray} (h : OwnS base w v zs) (hb : Below w.heap.size w w') : OwnS base w' v zs := ownsRow_past h hb

end Go.Proofs.YtfhlceggihodeaaGreat

/- The contract of the program's 'derivative'. -/

namespace Go.Proofs.YtfhlceggihodeaaGreat
open Go.RowKit Go.Shelf

set_option maxRecDepth 100000 in
set_option maxHeartbeats 4000000 in
theorem derivative_any (g off cap n : Nat) (l : List UInt8) (gi c : Int) (w : World) (hl : l.length = n) (hn : n ≤ 60) (hlet : Letters g off l w) (hll : letL l = true) (hc : -1000000 ≤ c ∧ c ≤ 1000000) :
    Calls Tryz.prog 22 #[.slice (some ⟨g, off, none⟩) n cap, .int .i64 gi, .int .i64 c] w fun e w' => (∃ v, e = .returned v ∧ OwnT w.heap.size w' v (foxL gi c l)) ∧ Below w.heap.size w w' := by
  have HBg := Lib.hid (beginnings_any g off cap n l w hl hn hlet)
  obtain ⟨hgs, hcells⟩ := hlet
  obtain ⟨i0, hi, hz0, hz1, hz2⟩ := info_parts infoTerm
  have HCe := Lib.hid hcells
  have HL := Lib.hid hl
  have HLL := Lib.hid hll
  have HC := Lib.hid hc
  have hmx : Tryz.prog.follows .mixedOrders = true := by kernel_rfl
  clear hcells hl hll hc
  go_enter Tryz.func22, Tryz.ntmps22
  go_wp2_with fail
  refine HBg.out.mono ?_
  rintro e w1 ⟨B, rfl, hst, hb1⟩
  have HST := Lib.hid hst
  have HB1 := Lib.hid hb1
  clear hst hb1
  go_wp2_with fail
  go_loopw [8, 16] (fun v i wr => ∃ k : Nat, k ≤ n ∧ i = .int .i64 k ∧ Hid (OwnT w1.heap.size wr v (foxN gi c l k)) ∧ Below w1.heap.size w1 wr) (fun _ i _ => n - (intOf i).toNat)
  case atStart => exact ⟨0, Nat.zero_le _, rfl, Lib.hid ⟨rfl, .inl ⟨rfl, rfl⟩⟩, Below.refl _ _⟩
  case round =>
    obtain ⟨k, hk, rfl, HO, hB⟩ := hrel
    by_cases hlt : k < n
    · have hkl : k < l.length := by rw [HL.out]; exact hlt
      obtain ⟨x, hx⟩ : ∃ x, l[k] = x := ⟨_, rfl⟩
      have hsrc : wr.cell? ⟨g, off + k, none⟩ = some (.int .u8 (x.toNat : Int)) := by
        rw [← hx]; exact ((HB1.out.trans (hB.mono HB1.out.size)).cell (p := ⟨g, off + k, none⟩) hgs).trans (HCe.out k hkl)
      have hlet : letB x = true := by rw [← hx]; exact letL_get _ HLL.out k hkl
      have hsucc := foxN_succ gi c l k hkl
      rw [hx] at hsucc
      obtain ⟨q, hq⟩ : ∃ q, idxB x = q := ⟨_, rfl⟩
      have HIX : Hid (∀ W, Calls Tryz.prog 44 #[.int .u8 (x.toNat : Int)] W fun e w' => e = .returned (.int .i64 (q : Int)) ∧ w' = W) := Lib.hid fun W => by rw [← hq]; exact iIndex_any x W hlet
      obtain ⟨hBs, G, hLG, hcs⟩ := HST.out.below hB
      have c0 := hcs k (by omega)
      have c1 := hcs (k + 1) (by omega)
      obtain ⟨u, hu⟩ : ∃ u, sgnB x = u := ⟨_, rfl⟩
      have hcu : -1000000 ≤ c * u ∧ c * u ≤ 1000000 := by rw [← hu]; exact mul_sgn HC.out x
      have hmul : IntKind.i64.wrap (c * u) = c * u := IntWalk.i64_in _ (by omega)
      have HSX : Hid (∀ W, Calls Tryz.prog 36 #[.int .u8 (x.toNat : Int)] W fun e w' => e = .returned (.int .i64 u) ∧ w' = W) := Lib.hid fun W => by rw [← hu]; exact iSign_any x W hlet
      have HSB : Hid (∀ p : BelowBy wr, Calls Tryz.prog 36 #[.int .u8 (x.toNat : Int)] p.world fun e w' => e = .returned (.int .i64 u) ∧ Below p.world.heap.size p.world w') :=
        Lib.hid fun p => (HSX.out p.world).mono fun e w' ⟨h1, h2⟩ => ⟨h1, by rw [h2]; exact Below.refl _ _⟩
      by_cases hg : (q : Int) = gi
      · have hgg : (idxB x : Int) = gi := by rw [hq]; exact hg
        have hlen := foxN_len gi c l k
        obtain ⟨N, hN⟩ : ∃ N, (foxN gi c l k).length = N := ⟨_, rfl⟩
        rw [hN] at hlen
        have hown := HO.out
        unfold OwnT at hown
        rw [hN] at hown
        have HOW := Lib.hid hown
        have HN := Lib.hid hN
        have hbs := hB.size
        clear hown hN
        by_cases h97 : 97 ≤ x.toNat
        · have hu0 : ¬ u < 0 := by rw [← hu]; unfold sgnB; rw [if_pos h97]; omega
          have hdu : decide (u < 0) = false := decide_eq_false hu0
          rw [foxT_hi hgg h97, hu] at hsucc
          obtain ⟨r, hr⟩ : ∃ r, bstr (l.take k) = r := ⟨_, rfl⟩
          rw [hr] at hsucc
          have HTX : Hid (∀ p : BelowBy wr, Calls Tryz.prog 45 #[.slice (some ⟨G, 0, none⟩) k k] p.world fun e w' => e = .returned (.string r) ∧ Below p.world.heap.size p.world w') :=
            Lib.hid fun p => by rw [← hr]; exact text_letters G 0 k k (l.take k) p.world (by rw [List.length_take]; omega) (by omega) ((hLG.below p.below).take k)
          have HS := Lib.hid hsucc
          have hbk := hBs
          clear hsucc hr hgg hq hu hlet hcs hLG hcu
          go_wp2_with fail
          refine (HIX.out _).mono ?_
          rintro e w2 ⟨rfl, rfl⟩
          go_wp2_with fail
          refine (HSX.out _).mono ?_
          rintro e w2 ⟨rfl, rfl⟩
          go_wp2_with fail
          refine (HSX.out _).mono ?_
          rintro e w2 ⟨rfl, rfl⟩
          go_wp2_with fail
          refine (HTX.out ⟨w2, Below.refl _ _⟩).mono ?_
          rintro e w3 ⟨rfl, hb3⟩
          have HB3 := Lib.hid (hB.trans (hb3.mono hbs))
          have HO3 := Lib.hid (show w3.ownsRow w1.heap.size TI 2 u8 N (termsV (foxN gi c l k)) from ownsRow_past HOW.out hb3)
          have hs3 : w1.heap.size ≤ w3.heap.size := HB3.out.size
          clear hb3
          go_wp2_with (at_builtin; refine wpList_append_lies _ rfl _ _ _ rfl w1.heap.size TI i0 _ 2 24 Tryz.underlying33 hi hz0 hz1 hz2 rfl (by omega) u8 N (termsV (foxN gi c l k)) rfl (HO3.out.alloc _) ⟨w3.heap.size, 0, none⟩ 1 1 [.int .i64 (c * u), .string r] rfl rfl (World.news_of_block (cs := #[.int .i64 (c * u), .string r]) (t := TI) (fr := (0, 0)) (heap_alloc_new w3 _)) (by simp [Value.oneCell']) (by omega) (by unfold maxLen; omega) (by omega) (by simp; omega) (w3.heap.size + 1) (by simp) ?_; intro gg cap1 w7 hown7 hgrow7 hat hlt7)
          have hlow := ownsRow_low HO3.out
          have hB7 : Below w1.heap.size w1 w7 := HB3.out.trans (((Below.refl w1.heap.size w3).alloc hs3 _).grown hgrow7 (by simp; omega) hlow)
          have HO7 := Lib.hid hown7
          clear hown7 hgrow7 hat hlt7 hlow
          go_wp2
          go_roundw
          case rel =>
            refine ⟨k + 1, by omega, by go_num, Lib.hid ?_, hB7⟩
            rw [HS.out]
            unfold OwnT
            rw [List.length_append, HN.out, termsV_append]
            exact HO7.out
          case measure => simp [intOf]; omega
        · have hu0 : u < 0 := by rw [← hu]; unfold sgnB; rw [if_neg h97]; omega
          have hdu : decide (u < 0) = true := decide_eq_true hu0
          rw [foxT_lo hgg h97, hu, ← hx, ← take_snoc l k hkl] at hsucc
          obtain ⟨r, hr⟩ : ∃ r, bstr (l.take (k + 1)) = r := ⟨_, rfl⟩
          rw [hr] at hsucc
          have HTX : Hid (∀ p : BelowBy wr, Calls Tryz.prog 45 #[.slice (some ⟨G, 0, none⟩) (k + 1 : Nat) (k + 1 : Nat)] p.world fun e w' => e = .returned (.string r) ∧ Below p.world.heap.size p.world w') :=
            Lib.hid fun p => by rw [← hr]; exact text_letters G 0 (k + 1) (k + 1) (l.take (k + 1)) p.world (by rw [List.length_take]; omega) (by omega) ((hLG.below p.below).take (k + 1))
          have HS := Lib.hid hsucc
          have hbk := hBs
          clear hsucc hr hgg hq hu hlet hcs hLG hcu hx
          go_wp2_with fail
          refine (HIX.out _).mono ?_
          rintro e w2 ⟨rfl, rfl⟩
          go_wp2_with fail
          refine (HSX.out _).mono ?_
          rintro e w2 ⟨rfl, rfl⟩
          go_wp2_with fail
          refine (HSX.out _).mono ?_
          rintro e w2 ⟨rfl, rfl⟩
          go_wp2_with fail
          refine (HTX.out ⟨w2, Below.refl _ _⟩).mono ?_
          rintro e w3 ⟨rfl, hb3⟩
          have HB3 := Lib.hid (hB.trans (hb3.mono hbs))
          have HO3 := Lib.hid (show w3.ownsRow w1.heap.size TI 2 u8 N (termsV (foxN gi c l k)) from ownsRow_past HOW.out hb3)
          have hs3 : w1.heap.size ≤ w3.heap.size := HB3.out.size
          clear hb3
          go_wp2_with (at_builtin; refine wpList_append_lies _ rfl _ _ _ rfl w1.heap.size TI i0 _ 2 24 Tryz.underlying33 hi hz0 hz1 hz2 rfl (by omega) u8 N (termsV (foxN gi c l k)) rfl (HO3.out.alloc _) ⟨w3.heap.size, 0, none⟩ 1 1 [.int .i64 (c * u), .string r] rfl rfl (World.news_of_block (cs := #[.int .i64 (c * u), .string r]) (t := TI) (fr := (0, 0)) (heap_alloc_new w3 _)) (by simp [Value.oneCell']) (by omega) (by unfold maxLen; omega) (by omega) (by simp; omega) (w3.heap.size + 1) (by simp) ?_; intro gg cap1 w7 hown7 hgrow7 hat hlt7)
          have hlow := ownsRow_low HO3.out
          have hB7 : Below w1.heap.size w1 w7 := HB3.out.trans (((Below.refl w1.heap.size w3).alloc hs3 _).grown hgrow7 (by simp; omega) hlow)
          have HO7 := Lib.hid hown7
          clear hown7 hgrow7 hat hlt7 hlow
          go_wp2
          go_roundw
          case rel =>
            refine ⟨k + 1, by omega, by go_num, Lib.hid ?_, hB7⟩
            rw [HS.out]
            unfold OwnT
            rw [List.length_append, HN.out, termsV_append]
            exact HO7.out
          case measure => simp [intOf]; omega
      · have hgg : ¬ (idxB x : Int) = gi := by rw [hq]; exact hg
        have hdg : decide ((q : Int) = gi) = false := decide_eq_false hg
        rw [foxT_no hgg, List.append_nil] at hsucc
        have HS := Lib.hid hsucc
        clear hsucc hgg hq hu hlet hcs hLG hcu
        go_wp2_with fail
        refine (HIX.out _).mono ?_
        rintro e w2 ⟨rfl, rfl⟩
        go_wp2_with fail
        go_roundw
        case rel => exact ⟨k + 1, by omega, by go_num, Lib.hid (by rw [HS.out]; exact HO.out), hB⟩
        case measure => simp [intOf]; omega
    · obtain rfl : k = n := by omega
      go_wp2_with fail
      go_ret
      refine ⟨⟨_, rfl, ?_⟩, HB1.out.trans (hB.mono HB1.out.size)⟩
      unfold foxL
      rw [HL.out]
      exact HO.out.mono HB1.out.size

end Go.Proofs.YtfhlceggihodeaaGreat

/- The contracts of the program's 'SumAdd'; both SumAdds as a law wants them. -/

namespace Go.Proofs.YtfhlceggihodeaaGreat
open Go.RowKit Go.Shelf

theorem sumB_small {x : List Tm} (h : sumB x = true) : x.length ≤ 300 ∧ (∀ t ∈ x, t.s.size ≤ 60 ∧ -1000000 ≤ t.c ∧ t.c ≤ 1000000) ∧ SmallT x := by
  obtain ⟨h1, h2⟩ := canon_len_words (sumB_parts h).1
  have h3 : ∀ t ∈ x, t.s.size ≤ 60 ∧ -1000000 ≤ t.c ∧ t.c ≤ 1000000 := fun t ht => termB_iff (h2 t ht)
  exact ⟨h1, h3, by unfold maxLen; omega, fun t ht => by have := h3 t ht; unfold maxLen; omega⟩
theorem told_small {b : Bool} {L us : List Tm} (h : b = true → twB L = true) (hus : cond b L [] = us) : SmallT us ∧ us.length ≤ 300 := by
  cases b with
  | false => subst hus; exact ⟨⟨Nat.zero_le _, fun t h => by cases h⟩, Nat.zero_le _⟩
  | true =>
    have hus : L = us := hus
    subst hus
    obtain ⟨h1, h2⟩ := canon_len_words (h rfl)
    exact ⟨⟨by unfold maxLen; omega, fun t ht => by have := termB_iff (h2 t ht); unfold maxLen; omega⟩, h1⟩

theorem two_cells (w : World) (u v : Value) (x y : List Tm) (t : TypeId) : ∀ i (h : i < [(u, x), (v, y)].length), (w.alloc (.cells #[u, v] t)).cell? ⟨w.heap.size, i, none⟩ = some [(u, x), (v, y)][i].1 := fun i h => by
  rw [World.cell?_alloc_at _ _ _ _ rfl]
  match i, h with
  | 0, _ => rfl
  | 1, _ => rfl
theorem addB_tw {x y : List Tm} {b : Bool} (h : addB x y = b) : b = true → twB (canonT (x ++ y)) = true := by
  intro hb
  subst hb
  unfold addB at h
  simp only [Bool.and_eq_true] at h
  exact h.2.2

end Go.Proofs.YtfhlceggihodeaaGreat

/- The contracts of the program's 'SumTimes'; both SumTimes as a law wants them. -/

namespace Go.Proofs.YtfhlceggihodeaaGreat
open Go.RowKit Go.Shelf

/-- A row of words, those of the terms. -/
def WordsAt (w : World) (g : Nat) (ts : List Tm) : Prop :=
  g < w.heap.size ∧ ∀ j (h : j < ts.length), ∃ gw cap, w.cell? ⟨g, j, none⟩ = some (.slice (some ⟨gw, 0, none⟩) ts[j].s.size cap) ∧ IsWord w.heap.size w (.slice (some ⟨gw, 0, none⟩) ts[j].s.size cap) ts[j].s.data.toList
theorem WordsAt.below {w w' : World} {g : Nat} {ts : List Tm} (h : WordsAt w g ts) (hb : Below w.heap.size w w') : WordsAt w' g ts :=
  ⟨Nat.lt_of_lt_of_le h.1 hb.size, fun j hj => by
    obtain ⟨gw, cap, h1, h2⟩ := h.2 j hj
    exact ⟨gw, cap, (hb.cell (p := ⟨g, j, none⟩) h.1).trans h1, (h2.below hb).mono hb.size⟩⟩
theorem wordsAt_of {w : World} {base lo g cap n : Nat} {vals : List Value} {ts : List Tm} (hn : ts.length = n) (h : w.ownsRow base WT 1 (.slice (some ⟨g, 0, none⟩) n cap) n vals) (hv : ∀ j (h : j < ts.length) v, vals[j]? = some v → WordAt lo w v ts[j].s.data.toList) : WordsAt w g ts :=
  ⟨(ownsRow_cap h).2.2.2, fun j hj => by
    have hl := h.1
    rw [Nat.mul_one] at hl
    have hjv : j < vals.length := by omega
    have hw := hv j hj vals[j] (List.getElem?_eq_getElem hjv)
    have hi := hw.isWord
    obtain ⟨gw, cp, e⟩ := hw.slice
    have hsz : ts[j].s.data.toList.length = ts[j].s.size := by simp
    rw [hsz] at e
    refine ⟨gw, cp, ?_, by rw [← e]; exact hi⟩
    rw [h.cellAt j (by omega), List.getElem?_eq_getElem hjv, e]⟩

theorem reduced_boxes0 (w : World) (its : List Item) (hG : ∀ it ∈ its, Gives it ∧ IsWord w.heap.size w it.sv it.L) (hl : (its.map Item.xs).flatten.length ≤ 100000000) (hn : its.length ≤ 1000000) :
    Calls Tryz.prog 69 #[.slice (some ⟨w.heap.size + its.length, 0, none⟩) its.length its.length] ((boxes w its).alloc (.cells (funcs w.heap.size its).toArray IT)) fun e w' =>
      ∃ g m cap', e = .returned (.slice (some ⟨g, 0, none⟩) m cap') ∧ (redX [] (its.map Item.xs).flatten).length = m ∧ w'.ownsRow w.heap.size 69 1 (.slice (some ⟨g, 0, none⟩) m cap') m (bytesV (redX [] (its.map Item.xs).flatten)) ∧ Below w.heap.size w w' := by
  have hbw := boxes_below its w
  have hsz := boxes_size its w
  have hbW : Below w.heap.size w ((boxes w its).alloc (.cells (funcs w.heap.size its).toArray IT)) := hbw.alloc (by omega) _
  have hr := reduced_in 20 (by omega) (some ⟨w.heap.size + its.length, 0, none⟩) (w.heap.size + its.length) 0 its.length (partsOf w.heap.size its) ((boxes w its).alloc (.cells (funcs w.heap.size its).toArray IT)) (fun _ => rfl)
    (by simp; omega)
    (fun i h => by
      rw [World.cell?_alloc_at _ _ _ _ (by show _ = _; omega)]
      rw [Nat.zero_add, List.getElem?_toArray]
      exact funcs_get its _ i h)
    (fun p hp => by
      obtain ⟨it, hm, B, rfl, hB, hc⟩ := parts_mem its w p hp
      obtain ⟨hg, hw⟩ := hG it hm
      refine ⟨hg.1 _ B _ ?_ (Nat.le_refl _) (cell_past hc _) ((hw.below hbW).mono ?_), hg.2⟩
      · simp; omega
      · simp; omega)
    (by rw [cat_parts]; exact hl) (by rw [partsOf_len]; exact hn)
  rw [cat_parts, partsOf_len] at hr
  refine ((callsIn_wide (n := 20)).1 hr).mono ?_
  rintro e w' ⟨g, m, cap', rfl, hm, hown, hb⟩
  have hsW : w.heap.size ≤ ((boxes w its).alloc (.cells (funcs w.heap.size its).toArray IT)).heap.size := hbW.size
  exact ⟨g, m, cap', rfl, hm, ownsRow_base hown hsW, hbW.trans (hb.mono hsW)⟩

/-- Two words, one behind the other. -/
theorem reduced_two (g1 g2 n1 n2 c1 c2 : Nat) (s1 s2 : ByteArray) (w : World) (h1 : wordB s1.data.toList = true) (h2 : wordB s2.data.toList = true) (i1 : IsWord w.heap.size w (.slice (some ⟨g1, 0, none⟩) n1 c1) s1.data.toList) (i2 : IsWord w.heap.size w (.slice (some ⟨g2, 0, none⟩) n2 c2) s2.data.toList) :
    Calls Tryz.prog 69 #[.slice (some ⟨w.heap.size + 2, 0, none⟩) 2 2]
      (((w.alloc (.cells #[.slice (some ⟨g1, 0, none⟩) n1 c1] WT)).alloc (.cells #[.slice (some ⟨g2, 0, none⟩) n2 c2] WT)).alloc (.cells #[.func (.func 84) #[] #[.pointer (some ⟨w.heap.size, 0, none⟩)], .func (.func 84) #[] #[.pointer (some ⟨w.heap.size + 1, 0, none⟩)]] IT)) fun e w' =>
      ∃ g m cap', e = .returned (.slice (some ⟨g, 0, none⟩) m cap') ∧ (redL [] (s1.data.toList ++ s2.data.toList)).length = m ∧ m ≤ 1000 ∧ w'.ownsRow w.heap.size 69 1 (.slice (some ⟨g, 0, none⟩) m cap') m (bytesV (redL [] (s1.data.toList ++ s2.data.toList))) ∧ Below w.heap.size w w' := by
  obtain ⟨p1, p2, _⟩ := (wordB_iff _).1 h1
  obtain ⟨q1, q2, _⟩ := (wordB_iff _).1 h2
  have hr : redX [] (s1.data.toList ++ (s2.data.toList ++ [])) = redL [] (s1.data.toList ++ s2.data.toList) := by
    rw [List.append_nil]; exact redX_eq _ _ (by rw [letL_append, p2, q2]; rfl)
  have hrd := reduced_boxes0 w [⟨84, .slice (some ⟨g1, 0, none⟩) n1 c1, s1.data.toList, s1.data.toList⟩, ⟨84, .slice (some ⟨g2, 0, none⟩) n2 c2, s2.data.toList, s2.data.toList⟩]
    (fun it hit => by
      rcases List.mem_cons.1 hit with rfl | hit
      · exact ⟨gives_fwd _ _, i1⟩
      · obtain rfl := List.mem_singleton.1 hit; exact ⟨gives_fwd _ _, i2⟩) (by simp only [List.map_cons, List.map_nil, List.flatten_cons, List.flatten_nil, List.length_append, List.length_nil]; omega) (by simp)
  simp only [List.map_cons, List.map_nil, List.flatten_cons, List.flatten_nil, hr] at hrd
  refine hrd.mono ?_
  rintro e w' ⟨g, m, cap', h1, h2, h3, h4⟩
  refine ⟨g, m, cap', h1, h2, ?_, h3, h4⟩
  have := redL_len (s1.data.toList ++ s2.data.toList) []
  rw [List.length_append] at this
  simp only [List.length_nil] at this
  omega

def prodB (x y : List Tm) : Bool := sumB x && (sumB y && (fitB (pairsT x y) && twB (canonT (pairsT x y))))

theorem prodB_tw {x y : List Tm} {b : Bool} (h : prodB x y = b) : b = true → twB (canonT (pairsT x y)) = true := by
  intro hb
  subst hb
  unfold prodB at h
  simp only [Bool.and_eq_true] at h
  exact h.2.2.2

end Go.Proofs.YtfhlceggihodeaaGreat

/- The contracts of the program's 'FoxSum' and 'FoxOf'. -/

namespace Go.Proofs.YtfhlceggihodeaaGreat
open Go.RowKit Go.Shelf

/-- A list of terms of the call's own is put behind another one. -/
theorem wpList_append_terms {w : World} {ops : Array Oper} {rest : List Oper} {o : Oper} {a : Act} {Q : Exit → Act → World → Prop} (hgd : o.guard = none) (s x : Operand)
    (ho : o.op = .call { callee := .builtin .append, args := #[s, x], argTypes := #[33, 33] }) (base b2 : Nat) (v1 v2 : Value) (ts1 ts2 : List Tm) (hs : a.eval s = v1) (hx : a.eval x = v2)
    (h1 : OwnT base w v1 ts1) (h2 : OwnT b2 w v2 ts2) (hl : ts1.length + ts2.length ≤ 1000000) (hbase : base ≤ w.heap.size)
    (h : ∀ v' w', OwnT base w' v' (ts1 ++ ts2) → w.grownBy w' v1.ownBlock → wpList Tryz.prog ops Q rest (a.put o.dst v') w') : wpList Tryz.prog ops Q (o :: rest) a w := by
  obtain ⟨i0, hi, hz0, hz1, hz2⟩ := info_parts infoTerm
  rcases h2.2 with ⟨rfl, h0⟩ | ⟨g, cap, cur, rfl, _⟩
  · have h20 : ts2 = [] := List.eq_nil_of_length_eq_zero h0
    subst h20
    refine wpList_append_own_none hgd s x 33 ho base TI i0 2 Tryz.underlying33 hi v1 ts1.length (termsV ts1) hs h1 hx ?_
    refine h v1 w (by rw [List.append_nil]; exact h1) ⟨rfl, rfl, rfl, Nat.le_refl _, fun _ _ _ => rfl⟩
  · have hat := termsAt_of_owns rfl h2
    have hc : ∀ j u, (termsV ts2)[j]? = some u → w.cell? ((⟨g, 0, none⟩ : Addr).add j) = some u := hat.cells
    refine wpList_append_own _ hgd s x 33 ho base TI i0 (.agg #[.int .i64 0, .string ByteArray.empty]) 2 24 Tryz.underlying33 hi hz0 hz1 hz2 rfl (by decide) v1 ts1.length (termsV ts1) hs h1
      ⟨g, 0, none⟩ ts2.length cap (termsV ts2) hx (termsV_len ts2) hc (oneCell_terms _) (by unfold maxLen; omega) (by omega) hbase ?_
    intro v' w' h3 h4 _
    refine h v' w' ?_ h4
    unfold OwnT
    rw [List.length_append, termsV_append]
    exact h3

set_option maxRecDepth 100000 in
set_option maxHeartbeats 4000000 in
theorem iFoxSum_noSum (a : Option Addr) (cap n : Nat) (x : List Tm) (g : Int) (w : World) (hx : IsTerms w a n x) (hb : sumB x = false) :
    Calls Tryz.prog 12 #[.slice a n cap, .int .i64 g] w (ITold w false []) := by
  have HX := Lib.hid hx
  have HBX := Lib.hid hb
  clear hx hb
  go_enter Tryz.func12, Tryz.ntmps12
  go_wp2_with fail
  refine (sumWords_any a cap n x _ HX.out).mono ?_
  rintro e w1 ⟨⟨rfl, hf⟩ | ⟨g1, vals, rfl, hf, _, _⟩, hb1⟩
  · have HB1 := Lib.hid hb1
    clear hb1 hf
    go_wp2
    go_ret2
    exact ⟨⟨_, rfl, ownNil _ _⟩, HB1.out⟩
  · rw [HBX.out] at hf; cases hf

set_option maxRecDepth 100000 in
set_option maxHeartbeats 4000000 in
theorem iFoxSum_noGen (a : Option Addr) (cap n : Nat) (x : List Tm) (g : Int) (w : World) (hx : IsTerms w a n x) (hb : inR 0 3 g = false) :
    Calls Tryz.prog 12 #[.slice a n cap, .int .i64 g] w (ITold w false []) := by
  have HX := Lib.hid hx
  have hgn : ¬ (0 ≤ g ∧ g ≤ 3) := by
    intro h
    unfold inR at hb
    rw [decide_eq_true h.1, decide_eq_true h.2] at hb
    cases hb
  clear hx hb
  by_cases h0 : g < 0
  · have hd : decide (g < 0) = true := decide_eq_true h0
    go_enter Tryz.func12, Tryz.ntmps12
    go_wp2_with fail
    refine (sumWords_any a cap n x _ HX.out).mono ?_
    rintro e w1 ⟨⟨rfl, hf⟩ | ⟨g1, vals, rfl, hf, _, _⟩, hb1⟩
    · have HB1 := Lib.hid hb1
      clear hb1 hf
      go_wp2
      go_ret2
      exact ⟨⟨_, rfl, ownNil _ _⟩, HB1.out⟩
    · have HB1 := Lib.hid hb1
      clear hb1 hf
      go_wp2
      go_ret2
      exact ⟨⟨_, rfl, ownNil _ _⟩, HB1.out⟩
  · have hd : decide (g < 0) = false := decide_eq_false h0
    have h4 : 4 ≤ g := by omega
    have hd4 : decide (4 ≤ g) = true := decide_eq_true h4
    go_enter Tryz.func12, Tryz.ntmps12
    go_wp2_with fail
    refine (sumWords_any a cap n x _ HX.out).mono ?_
    rintro e w1 ⟨⟨rfl, hf⟩ | ⟨g1, vals, rfl, hf, _, _⟩, hb1⟩
    · have HB1 := Lib.hid hb1
      clear hb1 hf
      go_wp2
      go_ret2
      exact ⟨⟨_, rfl, ownNil _ _⟩, HB1.out⟩
    · have HB1 := Lib.hid hb1
      clear hb1 hf
      go_wp2
      go_ret2
      exact ⟨⟨_, rfl, ownNil _ _⟩, HB1.out⟩

set_option maxRecDepth 100000 in
set_option maxHeartbeats 4000000 in
theorem iFoxSum_yes (a : Option Addr) (cap n : Nat) (x : List Tm) (g : Int) (b : Bool) (w : World) (hx : IsTerms w a n x) (hbx : sumB x = true) (hg : inR 0 3 g = true) (hb : twB (canonT (foxI g x)) = b) :
    Calls Tryz.prog 12 #[.slice a n cap, .int .i64 g] w (ITold w b (canonT (foxI g x))) := by
  obtain ⟨hlx, hwx⟩ := canon_len_words (sumB_parts hbx).1
  have hn : n ≤ 300 := by rw [← hx.len]; exact hlx
  have HX := Lib.hid hx
  have HBX := Lib.hid hbx
  have HWX := Lib.hid hwx
  have HBB := Lib.hid hb
  obtain ⟨hg0, hg3⟩ : 0 ≤ g ∧ g ≤ 3 := by unfold inR at hg; simpa using hg
  have hd : decide (g < 0) = false := decide_eq_false (by omega)
  have hd4 : decide (4 ≤ g) = false := decide_eq_false (by omega)
  have HLEN : Hid (∀ k, k ≤ n → (foxI g (x.take k)).length ≤ 18000) := Lib.hid fun k hk => by
    have h1 := foxI_len g (x.take k) fun t ht => (termB_iff (hwx t (List.mem_of_mem_take ht))).1
    have h2 : (x.take k).length ≤ 300 := by rw [List.length_take]; omega
    omega
  clear hx hbx hlx hwx hb hg
  go_enter Tryz.func12, Tryz.ntmps12
  go_wp2_with fail
  refine (sumWords_any a cap n x _ HX.out).mono ?_
  rintro e w1 ⟨⟨rfl, hf⟩ | ⟨g1, vals, rfl, hf, hr1, hv1⟩, hb1⟩
  · rw [HBX.out] at hf; cases hf
  have HB1 := Lib.hid hb1
  have HW1 := Lib.hid (wordsAt_of HX.out.len hr1 hv1)
  clear hb1 hf hr1 hv1
  go_wp2_with fail
  go_loopw [8, 28] (fun v i wr => ∃ k : Nat, k ≤ n ∧ i = .int .i64 k ∧ Hid (OwnT w1.heap.size wr v (foxI g (x.take k))) ∧ Below w1.heap.size w1 wr) (fun _ i _ => n - (intOf i).toNat)
  case atStart => exact ⟨0, Nat.zero_le _, rfl, Lib.hid ⟨rfl, .inl ⟨rfl, rfl⟩⟩, Below.refl _ _⟩
  case round =>
    obtain ⟨k, hk, rfl, HO, hB⟩ := hrel
    by_cases hlt : k < n
    · have hkx : k < x.length := by rw [HX.out.len]; exact hlt
      obtain ⟨z, rfl, hz⟩ := HX.out.at_ (by omega)
      obtain ⟨t, ht⟩ : ∃ t, x[k] = t := ⟨_, rfl⟩
      have htb := HWX.out _ (List.getElem_mem hkx)
      obtain ⟨gw, cw, hcw, hiw⟩ := (HW1.out.below hB).2 k hkx
      have hzw := hz.below (HB1.out.trans (hB.mono HB1.out.size))
      have hc := hzw.2 k hkx
      rw [ht] at htb hcw hiw hc
      obtain ⟨c0, _⟩ := hc
      have hti := termB_iff htb
      have hlet := ((wordB_iff _).1 (termB_word htb)).2.1
      obtain ⟨_, offw, _, heq, hgw, hq0, hcells⟩ := hiw
      simp only [Value.slice.injEq, Option.some.injEq, Addr.mk.injEq] at heq
      obtain ⟨⟨rfl, rfl, hq1⟩, hq2, rfl⟩ := heq
      clear hq0 hq1 hq2
      have hlw : Letters gw 0 t.s.data.toList wr := ⟨hgw, hcells⟩
      have HD : Hid (Calls Tryz.prog 22 #[.slice (some ⟨gw, 0, none⟩) t.s.size cw, .int .i64 g, .int .i64 t.c] wr fun e w' => (∃ v, e = .returned v ∧ OwnT wr.heap.size w' v (foxL g t.c t.s.data.toList)) ∧ Below wr.heap.size wr w') :=
        Lib.hid (derivative_any gw 0 cw t.s.size t.s.data.toList g t.c wr (by simp) hti.1 hlw hlet hti.2)
      have hsucc := foxI_succ g x k hkx
      rw [ht] at hsucc
      have hlen := HLEN.out (k + 1) (by omega)
      rw [hsucc, List.length_append] at hlen
      have HS := Lib.hid hsucc
      have HLE := Lib.hid hlen
      have hbs := hB.size
      clear ht htb hzw hti hlet hcells hlw hsucc hlen hz
      go_wp2_with fail
      refine HD.out.mono ?_
      rintro e w3 ⟨⟨vd, rfl, hod⟩, hb3⟩
      have HOD := Lib.hid hod
      have HO3 := Lib.hid (HO.out.below hb3)
      have HB3 := Lib.hid (hB.trans (hb3.mono hbs))
      have hs3 : w1.heap.size ≤ w3.heap.size := HB3.out.size
      clear hod hb3
      go_wp2_with (at_builtin; refine wpList_append_terms rfl _ _ rfl w1.heap.size wr.heap.size _ _ _ _ rfl rfl HO3.out HOD.out (by have := HLE.out; omega) hs3 ?_; intro v' w5 ho5 hg5)
      have hB5 : Below w1.heap.size w1 w5 := HB3.out.trans ((Below.refl w1.heap.size w3).grown hg5 hs3 (ownsRow_low HO3.out))
      have HO5 := Lib.hid ho5
      clear ho5 hg5
      go_wp2
      go_roundw
      case rel => exact ⟨k + 1, by omega, by go_num, Lib.hid (by rw [HS.out]; exact HO5.out), hB5⟩
      case measure => simp [intOf]; omega
    · obtain rfl : k = n := by omega
      have hown := HO.out
      rw [List.take_of_length_le (by rw [HX.out.len]; exact Nat.le_refl _)] at hown
      have hcf : ∀ t ∈ foxI g x, t.s.size ≤ 60 ∧ -1000000 ≤ t.c ∧ t.c ≤ 1000000 := fun t ht => foxI_mem (fun u hu => termB_iff (HWX.out u hu)) ht
      have hlen := HLEN.out k (Nat.le_refl _)
      rw [List.take_of_length_le (by rw [HX.out.len]; exact Nat.le_refl _)] at hlen
      have hsm : SmallT (foxI g x) := ⟨by unfold maxLen; omega, fun t ht => by have := hcf t ht; unfold maxLen; omega⟩
      obtain ⟨av, cv, rfl, hI⟩ := hown.isTerms hsm
      obtain ⟨N, hN⟩ : ∃ N, (foxI g x).length = N := ⟨_, rfl⟩
      rw [hN] at hI hlen ⊢
      have htold := toldSum_any av cv N (foxI g x) b wr hI (by omega) (fun t ht => by have := hcf t ht; omega) HBB.out
      have HTo := Lib.hid htold
      have HBr := Lib.hid hB
      clear hown hcf hsm hI hN htold
      go_wp2_with fail
      refine HTo.out.mono ?_
      rintro e w5 ⟨⟨v', rfl, ho⟩, hb5⟩
      have HO := Lib.hid ho
      have HB5 := Lib.hid (HB1.out.trans ((HBr.out.trans (hb5.mono HBr.out.size)).mono HB1.out.size))
      have hs5 := HBr.out.size
      have hs1 := HB1.out.size
      clear ho hb5
      go_wp2
      go_ret2
      exact ⟨⟨_, rfl, HO.out.mono (by omega)⟩, HB5.out⟩

end Go.Proofs.YtfhlceggihodeaaGreat

/- The contracts of both 'FoxOf' and both 'FoxTwice'. -/

namespace Go.Proofs.YtfhlceggihodeaaGreat
open Go.RowKit Go.Shelf

theorem iFoxSum_any (a : Option Addr) (cap n : Nat) (x : List Tm) (g : Int) (b : Bool) (w : World) (hx : IsTerms w a n x) (hb : foxSumB x g = b) :
    Calls Tryz.prog 12 #[.slice a n cap, .int .i64 g] w (ITold w b (canonT (foxI g x))) := by
  unfold foxSumB at hb
  cases hbx : sumB x with
  | false => rw [hbx] at hb; subst hb; exact iFoxSum_noSum _ _ _ x g w hx hbx
  | true =>
    cases hbg : inR 0 3 g with
    | false => rw [hbx, hbg] at hb; subst hb; exact iFoxSum_noGen _ _ _ x g w hx hbg
    | true => rw [hbx, hbg] at hb; exact iFoxSum_yes _ _ _ x g b w hx hbx hbg hb

/-- What FoxOf answers. -/
def foxOfB (s : ByteArray) (g : Int) : Bool := wordB s.data.toList && inR 0 3 g
theorem sum_one (s : ByteArray) : sumB [⟨1, s⟩] = wordB s.data.toList := by
  rw [sumB_canon ⟨by simp, fun t ht => by rw [List.mem_singleton.1 ht]; exact Int.one_ne_zero⟩]
  unfold twB termB inR
  simp
theorem foxI_one (s : ByteArray) (g : Int) : foxI g [⟨1, s⟩] = foxL g 1 s.data.toList := by simp [foxI]
theorem foxOf_sum {s : ByteArray} {g : Int} : foxSumB [⟨1, s⟩] g = foxOfB s g := by
  unfold foxSumB foxOfB
  rw [sum_one, foxI_one]
  cases h : wordB s.data.toList with
  | false => rfl
  | true => rw [fox_tw h, Bool.and_true]
theorem foxOfB_tw {s : ByteArray} {g : Int} {b : Bool} (h : foxOfB s g = b) : b = true → twB (canonT (foxL g 1 s.data.toList)) = true := by
  intro hb
  subst hb
  unfold foxOfB at h
  simp only [Bool.and_eq_true] at h
  exact fox_tw h.1
theorem isTerms_one (w : World) (c : Int) (s : ByteArray) (hs : s.size ≤ maxLen) (hc : -9223372036854775808 ≤ c ∧ c ≤ 9223372036854775807) :
    IsTerms (w.alloc (.cells #[.int .i64 c, .string s] TI)) (some ⟨w.heap.size, 0, none⟩) 1 [⟨c, s⟩] :=
  ⟨rfl, by unfold maxLen; omega, fun _ => ⟨_, rfl, by simp, fun i hi => by
    have hi0 : i = 0 := by simp at hi; exact hi
    subst hi0
    have ha : ∀ j, (⟨w.heap.size, 0, none⟩ : Addr).add j = ⟨w.heap.size, j, none⟩ := fun j => by unfold Addr.add; split <;> simp_all
    rw [ha, ha]
    exact ⟨(World.cell?_alloc_at _ _ _ _ (by simp)).trans rfl, (World.cell?_alloc_at _ _ _ _ (by simp)).trans rfl⟩⟩,
    fun t ht => by rw [List.mem_singleton.1 ht]; exact ⟨hs, hc⟩⟩

set_option maxRecDepth 100000 in
set_option maxHeartbeats 2000000 in
theorem iFoxOf_any (s : ByteArray) (g : Int) (b : Bool) (w : World) (hs : s.size ≤ maxLen) (hb : foxOfB s g = b) :
    Calls Tryz.prog 11 #[.string s, .int .i64 g] w (ITold w b (canonT (foxL g 1 s.data.toList))) := by
  have hc := iFoxSum_any (some ⟨w.heap.size, 0, none⟩) 1 1 [⟨1, s⟩] g b (w.alloc (.cells #[.int .i64 1, .string s] TI)) (isTerms_one w 1 s hs (by omega)) (by rw [foxOf_sum]; exact hb)
  rw [foxI_one] at hc
  have HC := Lib.hid hc
  clear hc hb
  go_enter Tryz.func11, Tryz.ntmps11
  go_wp2_with fail
  refine HC.out.mono ?_
  rintro e w1 ⟨⟨v', rfl, ho⟩, hb1⟩
  have HO := Lib.hid ho
  have HB1 := Lib.hid hb1
  clear ho hb1
  go_wp2
  go_ret2
  exact ⟨⟨_, rfl, HO.out.mono (by simp)⟩, ((Below.refl w.heap.size w).alloc (Nat.le_refl _) _).trans (HB1.out.mono (by simp))⟩

set_option maxRecDepth 100000 in
set_option maxHeartbeats 2000000 in
theorem sFoxOf_any (s : ByteArray) (g : Int) (b : Bool) (w : World) (hs : s.size ≤ maxLen) (hb : foxOfB s g = b) :
    Calls Tryz.prog 14 #[.string s, .int .i64 g] w (STold w b (canonT (foxL g 1 s.data.toList))) := by
  unfold foxOfB at hb
  cases hw : wordB s.data.toList with
  | false =>
    rw [hw] at hb
    obtain rfl : false = b := hb
    have HW := Lib.hid hw
    clear hw
    go_enter Tryz.func14, Tryz.ntmps14
    go_wp2_with fail
    refine (sWordIn_is _ false _ hs HW.out).mono ?_
    rintro e w1 ⟨rfl, hb1⟩
    have HB1 := Lib.hid hb1
    clear hb1
    go_wp2
    go_ret2
    exact ⟨⟨_, rfl, (ownEmpty w1).mono HB1.out.size⟩, HB1.out.alloc HB1.out.size _⟩
  | true =>
    cases hg : inR 0 3 g with
    | false =>
      rw [hw, hg] at hb
      obtain rfl : false = b := hb
      have HW := Lib.hid hw
      have HG := Lib.hid hg
      clear hw hg
      go_enter Tryz.func14, Tryz.ntmps14
      go_wp2_with fail
      refine (sWordIn_is _ true _ hs HW.out).mono ?_
      rintro e w1 ⟨rfl, hb1⟩
      have HB1 := Lib.hid hb1
      clear hb1
      go_wp2_with fail
      refine (l6In_is _ _ _ false _ HG.out).mono ?_
      rintro e w2 ⟨rfl, hb2⟩
      have HB2 := Lib.hid (HB1.out.trans (hb2.mono HB1.out.size))
      clear hb2
      go_wp2
      go_ret2
      exact ⟨⟨_, rfl, (ownEmpty w2).mono HB2.out.size⟩, HB2.out.alloc HB2.out.size _⟩
    | true =>
      rw [hw, hg] at hb
      obtain rfl : true = b := hb
      obtain ⟨hw1, hw2, _⟩ := (wordB_iff _).1 hw
      have HF : Hid (∀ W, Calls Tryz.prog 27 #[.string s, .int .i64 g] W fun e w' => (∃ v, e = .returned v ∧ Acc W.heap.size w' v (canonT (foxL g 1 s.data.toList)) 60 60) ∧ Below W.heap.size W w') :=
        Lib.hid fun W => l3Fox_any s g W (by simpa using hw1) hw2
      have HW := Lib.hid hw
      have HG := Lib.hid hg
      clear hw hg hw1 hw2
      go_enter Tryz.func14, Tryz.ntmps14
      go_wp2_with fail
      refine (sWordIn_is _ true _ hs HW.out).mono ?_
      rintro e w1 ⟨rfl, hb1⟩
      have HB1 := Lib.hid hb1
      clear hb1
      go_wp2_with fail
      refine (l6In_is _ _ _ true _ HG.out).mono ?_
      rintro e w2 ⟨rfl, hb2⟩
      have HB2 := Lib.hid (HB1.out.trans (hb2.mono HB1.out.size))
      clear hb2
      go_wp2_with fail
      refine (HF.out _).mono ?_
      rintro e w3 ⟨⟨v, rfl, ho⟩, hb3⟩
      have HO := Lib.hid ho.own
      have HB3 := Lib.hid (HB2.out.trans (hb3.mono HB2.out.size))
      have hs2 := HB2.out.size
      clear ho hb3
      go_wp2
      go_ret2
      exact ⟨⟨_, rfl, HO.out.mono hs2⟩, HB3.out⟩

/-! ### FoxTwice -/
structure Twice (s : ByteArray) (g h : Int) (b1 b2 : Bool) (us us2 : List Tm) (z : Int) (b : Bool) : Prop where
  h1 : foxOfB s g = b1
  hus : cond b1 (canonT (foxL g 1 s.data.toList)) [] = us
  h2 : foxSumB us h = b2
  hus2 : cond b2 (canonT (foxI h us)) [] = us2
  hz : cond (b1 && b2) (plainZ us2) 0 = z
  hb : (b1 && b2) = b
theorem Twice.small {s : ByteArray} {g h : Int} {b1 b2 : Bool} {us us2 : List Tm} {z : Int} {b : Bool} (t : Twice s g h b1 b2 us us2 z b) : SmallT us := (told_small (foxOfB_tw t.h1) t.hus).1
theorem Twice.small2 {s : ByteArray} {g h : Int} {b1 b2 : Bool} {us us2 : List Tm} {z : Int} {b : Bool} (t : Twice s g h b1 b2 us us2 z b) : SmallT us2 := (told_small (foxSumB_tw t.h2) t.hus2).1
theorem Twice.sum2 {s : ByteArray} {g h : Int} {b1 b2 : Bool} {us us2 : List Tm} {z : Int} {b : Bool} (t : Twice s g h b1 b2 us us2 z b) (hb : b2 = true) : sumB us2 = true := by
  have h2 := t.hus2
  rw [hb] at h2
  have h2 : canonT (foxI h us) = us2 := h2
  rw [← h2, sumB_canon (canon_of _)]
  exact foxSumB_tw t.h2 hb

set_option maxRecDepth 100000 in
set_option maxHeartbeats 2000000 in
theorem sFoxTwice_any (s : ByteArray) (g h : Int) (b1 b2 : Bool) (us us2 : List Tm) (z : Int) (b : Bool) (w : World) (hs : s.size ≤ maxLen) (ht : Twice s g h b1 b2 us us2 z b) :
    Calls Tryz.prog 6 #[.string s, .int .i64 g, .int .i64 h] w fun e w' => e = .returned (.tuple #[.int .i64 z, .bool b]) ∧ Below w.heap.size w w' := by
  have HT := Lib.hid ht
  clear ht
  obtain ⟨n, hn⟩ : ∃ n, us.length = n := ⟨_, rfl⟩
  obtain ⟨n2, hn2⟩ : ∃ n, us2.length = n := ⟨_, rfl⟩
  have HN := Lib.hid hn
  have HN2 := Lib.hid hn2
  clear hn hn2
  go_enter Tryz.func6, Tryz.ntmps6
  go_wp2_with fail
  refine (sFoxOf_any s g b1 w hs HT.out.h1).mono ?_
  rintro e w1 ⟨⟨v1, rfl, ho1⟩, hb1⟩
  rw [HT.out.hus] at ho1
  obtain ⟨a1, c1, rfl, hI1⟩ := ho1.own.isTerms HT.out.small
  rw [HN.out] at hI1 ⊢
  have HI1 := Lib.hid hI1
  have HB1 := Lib.hid hb1
  clear ho1 hI1 hb1
  go_wp2_with fail
  refine (sFoxSum_any a1 c1 n us h b2 _ HI1.out HT.out.h2).mono ?_
  rintro e w2 ⟨⟨v2, rfl, ho2⟩, hb2⟩
  rw [HT.out.hus2] at ho2
  obtain ⟨a2, c2, rfl, hI2⟩ := ho2.own.isTerms HT.out.small2
  rw [HN2.out] at hI2 ⊢
  have HI2 := Lib.hid hI2
  have HB2 := Lib.hid (HB1.out.trans (hb2.mono HB1.out.size))
  clear ho2 hI2 hb2
  cases b1 with
  | false =>
    obtain rfl : b = false := HT.out.hb.symm
    obtain rfl : z = 0 := HT.out.hz.symm
    go_wp2
    go_ret2
    exact ⟨rfl, HB2.out⟩
  | true =>
    cases b2 with
    | false =>
      obtain rfl : b = false := HT.out.hb.symm
      obtain rfl : z = 0 := HT.out.hz.symm
      go_wp2
      go_ret2
      exact ⟨rfl, HB2.out⟩
    | true =>
      obtain rfl : b = true := HT.out.hb.symm
      have HZ : Hid (plainZ us2 = z) := Lib.hid HT.out.hz
      have HS2 := Lib.hid (HT.out.sum2 rfl)
      go_wp2_with fail
      refine (sSumPlain_yes a2 c2 n2 us2 _ HI2.out HS2.out).mono ?_
      rw [HZ.out]
      rintro e w3 ⟨rfl, hb3⟩
      go_wp2
      go_ret2
      exact ⟨rfl, HB2.out.trans (hb3.mono HB2.out.size)⟩

set_option maxRecDepth 100000 in
set_option maxHeartbeats 2000000 in
theorem iFoxTwice_any (s : ByteArray) (g h : Int) (b1 b2 : Bool) (us us2 : List Tm) (z : Int) (b : Bool) (w : World) (hs : s.size ≤ maxLen) (ht : Twice s g h b1 b2 us us2 z b) :
    Calls Tryz.prog 5 #[.string s, .int .i64 g, .int .i64 h] w fun e w' => e = .returned (.tuple #[.int .i64 z, .bool b]) ∧ Below w.heap.size w w' := by
  have HT := Lib.hid ht
  clear ht
  obtain ⟨n, hn⟩ : ∃ n, us.length = n := ⟨_, rfl⟩
  obtain ⟨n2, hn2⟩ : ∃ n, us2.length = n := ⟨_, rfl⟩
  have HN := Lib.hid hn
  have HN2 := Lib.hid hn2
  clear hn hn2
  go_enter Tryz.func5, Tryz.ntmps5
  go_wp2_with fail
  refine (iFoxOf_any s g b1 w hs HT.out.h1).mono ?_
  rintro e w1 ⟨⟨v1, rfl, ho1⟩, hb1⟩
  rw [HT.out.hus] at ho1
  obtain ⟨a1, c1, rfl, hI1⟩ := ho1.isTerms HT.out.small
  rw [HN.out] at hI1 ⊢
  have HI1 := Lib.hid hI1
  have HB1 := Lib.hid hb1
  clear ho1 hI1 hb1
  cases b1 with
  | false =>
    obtain rfl : b = false := HT.out.hb.symm
    obtain rfl : z = 0 := HT.out.hz.symm
    go_wp2
    go_ret2
    exact ⟨rfl, HB1.out⟩
  | true =>
    go_wp2_with fail
    refine (iFoxSum_any a1 c1 n us h b2 _ HI1.out HT.out.h2).mono ?_
    rintro e w2 ⟨⟨v2, rfl, ho2⟩, hb2⟩
    rw [HT.out.hus2] at ho2
    obtain ⟨a2, c2, rfl, hI2⟩ := ho2.isTerms HT.out.small2
    rw [HN2.out] at hI2 ⊢
    have HI2 := Lib.hid hI2
    have HB2 := Lib.hid (HB1.out.trans (hb2.mono HB1.out.size))
    clear ho2 hI2 hb2
    cases b2 with
    | false =>
      obtain rfl : b = false := HT.out.hb.symm
      obtain rfl : z = 0 := HT.out.hz.symm
      go_wp2
      go_ret2
      exact ⟨rfl, HB2.out⟩
    | true =>
      obtain rfl : b = true := HT.out.hb.symm
      have HZ : Hid (plainZ us2 = z) := Lib.hid HT.out.hz
      have HS2 := Lib.hid (HT.out.sum2 rfl)
      go_wp2_with fail
      refine (iSumPlain_yes a2 c2 n2 us2 _ HI2.out HS2.out).mono ?_
      rw [HZ.out]
      rintro e w3 ⟨rfl, hb3⟩
      go_wp2
      go_ret2
      exact ⟨rfl, HB2.out.trans (hb3.mono HB2.out.size)⟩

/-! ### As a law wants them -/
theorem sFoxSum_law {gn c n : Nat} {x : List Tm} {g : Int} {b : Bool} {w : World} (hx : IsTerms w (some ⟨gn, 0, none⟩) n x) (hb : foxSumB x g = b) :
    Calls Tryz.prog 15 #[.slice (some ⟨gn, 0, none⟩) n c, .int .i64 g] w (STold w b (canonT (foxI g x))) := sFoxSum_any _ _ _ x g b w hx hb
theorem iFoxSum_law {gn c n : Nat} {x : List Tm} {g : Int} {b : Bool} {w : World} (hx : IsTerms w (some ⟨gn, 0, none⟩) n x) (hb : foxSumB x g = b) :
    Calls Tryz.prog 12 #[.slice (some ⟨gn, 0, none⟩) n c, .int .i64 g] w (ITold w b (canonT (foxI g x))) := iFoxSum_any _ _ _ x g b w hx hb
theorem sFoxOf_law {s : ByteArray} {g : Int} {b : Bool} {w : World} (hs : s.size ≤ maxLen) (hb : foxOfB s g = b) :
    Calls Tryz.prog 14 #[.string s, .int .i64 g] w (STold w b (canonT (foxL g 1 s.data.toList))) := sFoxOf_any s g b w hs hb
theorem iFoxOf_law {s : ByteArray} {g : Int} {b : Bool} {w : World} (hs : s.size ≤ maxLen) (hb : foxOfB s g = b) :
    Calls Tryz.prog 11 #[.string s, .int .i64 g] w (ITold w b (canonT (foxL g 1 s.data.toList))) := iFoxOf_any s g b w hs hb

end Go.Proofs.YtfhlceggihodeaaGreat

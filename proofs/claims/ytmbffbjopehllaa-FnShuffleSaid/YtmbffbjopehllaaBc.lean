/- What the laws' proofs stand on, part 3 of 3. -/
import Derived.Shelf.SlSortCmp.WholeK
import Derived.Shelf.SlSortCmp.NoneTotal
import Derived.Laws.EntriesVeiled
import Derived.Deep.AppendLies
import Derived.Deep.RegionLaw
import Derived.Deep.RegionWith
import Derived.Lib.SliceRun
import Derived.Shelf.SlMaps.Clone
import Derived.Test.YtmbffbjopehllaaBa
import Derived.Test.YtmbffbjopehllaaBb

/- The law of a loop over an iterator whose variable is boxed in each round. -/

namespace Go.Proofs.Ytmbffbjopehllaa
open Go.RowKit Go.Shelf

/-- **The loop's law**, where each round's variable is boxed. -/
theorem range_law2 {α : Type} {n : Nat} {g : Operand} {ps : Array Tmp} {assign body : Code} {Q : Exit → Act → World → Prop} {a : Act} {w : World} {gf : Nat} {lb : Array Value} (hn : 10 ≤ n)
    (hg : a.eval g = .func (.func gf) #[] lb) (eg : ∀ args w, (callFunc gf args).run Try.prog w = .ok (.enter gf args) w)
    {encs : α → Array Value} (hps : ∀ x, (encs x).size = ps.size) (Kp : Nat → World → World → Prop) (hKt : ∀ {N X Y Z}, Kp N X Y → Kp N Y Z → Kp N X Z)
    (hKp : ∀ N W l o o', l < N → w.heap.size ≤ l → W.heap[l]? = some o → o.isCells = false → o.isWalk = false → Kp N W (W.putObj l o')) (hKm : ∀ {X Y}, Kp w.heap.size X Y → Kp (w.heap.size + 2) X Y)
    (ob : α → Obj) (hKa : ∀ N W o, w.heap.size ≤ W.heap.size → Kp N W (W.alloc o))
    {xs : List α}
    (hseq : ∀ (l : Nat) (J : List α → World → Prop) (V : World), Below w.heap.size w V → w.heap.size < V.heap.size → OwnFrom V.heap.size J →
      (∀ pre x W1, J pre W1 → pre ++ [x] <+: xs → YieldAt Fence.wide (n - 1 - 1) Try.prog l (encs x) W1 fun e W' => e = .returned (.bool true) ∧ J (pre ++ [x]) W' ∧ Kp V.heap.size W1 W') → J [] V →
      CallsIn Fence.wide (n - 1) Try.prog gf (#[.func (.yield l) #[] #[]] ++ lb) V fun e W' => (∃ v, e = .returned v) ∧ J xs W')
    (I : List α → World → Prop) (hI : OwnFrom w.heap.size I) (h0 : I [] w) (a₁ : α → Nat → Act)
    (hassign : ∀ (l : Nat) (x : α) (W : World) (K : Act → World → Prop), K (a₁ x W.heap.size) (W.alloc (ob x)) →
      assign.wpIn (Fence.wide.inRound l) (n - 1 - 1) Try.prog (Exit.then K (fun _ _ _ => False)) { tmps := (ps.zip (encs x)).foldl (fun t (q, v) => t.setIfInBounds q v) a.tmps, defers := [] } W)
    (hbody : ∀ (l : Nat) (pre : List α) (x : α) (b : Nat) (W : World), I pre W → pre ++ [x] <+: xs → W.heap.size = b + 1 → W.heap[b]? = some (ob x) → w.heap.size + 2 ≤ b →
      body.wpIn (Fence.wide.inRound l) (n - 1 - 1) Try.prog (goesOn w.heap.size Kp I (pre ++ [x]) W) (a₁ x b) W)
    (hdone : ∀ (D : Nat) (W : World), w.heap.size ≤ D → I xs W → W.heap[D]? = some (.deferred (some [])) → Q .normal { a with defers := { target := .collected D, args := #[] } :: a.defers } W) :
    (Code.rangeFunc g ps assign body).wpIn Fence.wide n Try.prog Q a w := by
  refine wpIn_rangeFunc fun fn hfn => ?_
  have lp : ∃ lp : LoopState → Loop, lp = fun st => { state := st, pending := none, fn, tmps := a.tmps, params := ps, assign, body, defers := w.heap.size } := ⟨_, rfl⟩
  obtain ⟨lp, hlp⟩ := lp
  have e1 := run_enterLoop_outer (P := Try.prog) (w := w) fn a.tmps ps assign body
  rw [show ({ state := .ready, pending := none, fn, tmps := a.tmps, params := ps, assign, body, defers := w.heap.size } : Loop) = lp .ready by rw [hlp]] at e1
  have kD : ((w.alloc (.deferred (some []))).alloc (.loop (lp .ready))).heap[w.heap.size]? = some (.deferred (some [])) := (Below.heap_alloc _ _ _ (by simp)).trans (World.alloc_heap_new w _)
  have kL : ((w.alloc (.deferred (some []))).alloc (.loop (lp .ready))).heap[w.heap.size + 1]? = some (.loop (lp .ready)) := by
    have := World.alloc_heap_new (w.alloc (.deferred (some []))) (.loop (lp .ready)); rwa [World.size_alloc] at this
  have i0 := hI.alloc (Obj.loop (lp .ready)) (hI.alloc (Obj.deferred (some [])) h0)
  have hs : ((w.alloc (.deferred (some []))).alloc (.loop (lp .ready))).heap.size = w.heap.size + 2 := by simp
  have hb : Below w.heap.size w ((w.alloc (.deferred (some []))).alloc (.loop (lp .ready))) := ((Below.refl _ w).alloc (Nat.le_refl _) _).alloc (by simp) _
  generalize ((w.alloc (.deferred (some []))).alloc (.loop (lp .ready))) = V at e1 kD kL i0 hs hb
  refine ⟨w.heap.size + 1, _, V, { target := .fn (.func gf) lb, args := #[.func (.yield (w.heap.size + 1)) #[] #[]] }, V, gf, #[.func (.yield (w.heap.size + 1)) #[] #[]] ++ lb, V, e1, ?_, fun f' hf' => ?_, ?_, fun _ => by omega, ?_⟩
  · simp only [resolve, hg]
    simp [go_sem]
  · trivial
  · simp [invoke, go_sem, eg]
  · refine (hseq (w.heap.size + 1) (fun pre W => I pre W ∧ W.heap[w.heap.size]? = some (.deferred (some [])) ∧ W.heap[w.heap.size + 1]? = some (.loop (lp .ready))) V hb (by omega) ?_ ?_ ⟨i0, kD, kL⟩).mono ?_
    · rintro s X Y row ⟨h1, h2, h3⟩ hgr hr
      have far : ∀ k, k < V.heap.size → k < X.heap.size → Y.heap[k]? = X.heap[k]? := fun k hk hX => hgr.block k hX (fun e => by have := (hr k e.symm).1; omega)
      exact ⟨hI s X Y row h1 hgr (fun r e => by obtain ⟨q1, q2⟩ := hr r e; exact ⟨by omega, q2⟩), (far _ (by omega) (Array.getElem?_eq_some_iff.1 h2).1).trans h2, (far _ (by omega) (Array.getElem?_eq_some_iff.1 h3).1).trans h3⟩
    · rintro pre x W ⟨h1, h2, h3⟩ hpre
      have hlt : w.heap.size + 1 < W.heap.size := (Array.getElem?_eq_some_iff.1 h3).1
      have hy := run_yield (P := Try.prog) (args := encs x) h3 (by rw [hlp]; exact hps x)
      rw [hlp] at hy
      obtain ⟨U, hU⟩ : ∃ U, W.alloc (ob x) = U := ⟨_, rfl⟩
      have u3 : U.heap[w.heap.size + 1]? = some (.loop (lp .ready)) := by rw [← hU]; exact (Below.heap_alloc _ _ _ hlt).trans h3
      have u2 : U.heap[w.heap.size]? = some (.deferred (some [])) := by rw [← hU]; exact (Below.heap_alloc _ _ _ (by omega)).trans h2
      have u1 : I pre U := by rw [← hU]; exact hI.alloc (ob x) h1
      have uk : Kp (w.heap.size + 2) W U := by rw [← hU]; exact hKa _ _ _ (by omega)
      have un : U.heap[W.heap.size]? = some (ob x) := by rw [← hU]; exact World.alloc_heap_new W _
      have us : U.heap.size = W.heap.size + 1 := by rw [← hU]; simp
      refine ⟨fn, _, assign, body, hy, roundIn_of_wpIn hfn (hassign _ x W _ ?_)⟩
      rw [hU]
      refine ⟨_, run_beginRound u3 (by rw [hlp]), ?_⟩
      have hltU : w.heap.size + 1 < U.heap.size := by omega
      have b3 : (U.putObj (w.heap.size + 1) (.loop { lp .ready with state := .busy })).heap[w.heap.size + 1]? = some (.loop { lp .ready with state := .busy }) := World.putObj_heap_same hltU
      have b2 : (U.putObj (w.heap.size + 1) (.loop { lp .ready with state := .busy })).heap[w.heap.size]? = some (.deferred (some [])) := (World.putObj_heap_other (by omega)).trans u2
      have b1 := hI.putObj (.loop { lp .ready with state := .busy }) u1 (by omega) u3 rfl
      have bn : (U.putObj (w.heap.size + 1) (.loop { lp .ready with state := .busy })).heap[W.heap.size]? = some (ob x) := (World.putObj_heap_other (by omega)).trans un
      have bs : (U.putObj (w.heap.size + 1) (.loop { lp .ready with state := .busy })).heap.size = W.heap.size + 1 := by rw [World.putObj_size]; exact us
      have bk : Kp (w.heap.size + 2) W (U.putObj (w.heap.size + 1) (.loop { lp .ready with state := .busy })) := hKt uk (hKp _ U _ _ _ (by omega) (by omega) u3 rfl rfl)
      have hWs : w.heap.size + 2 ≤ W.heap.size := by omega
      generalize (U.putObj (w.heap.size + 1) (.loop { lp .ready with state := .busy })) = X at b1 b2 b3 bk bn bs
      refine wpIn_mono (hbody _ pre x W.heap.size X b1 hpre bs bn hWs) ?_
      intro e a3 Y hgo
      cases e with
      | normal => ?_
      | _ => exact hgo.elim
      obtain ⟨k3, kp, hi⟩ := hgo
      have c3 := k3.same _ _ (by omega) b3 rfl
      have c2 := k3.same _ _ (Nat.le_refl _) b2 rfl
      have he := run_endRound (P := Try.prog) none c3
      refine ⟨_, _, he, rfl, ⟨hI.putObj _ hi (by omega) c3 rfl, (World.putObj_heap_other (by omega)).trans c2, ?_⟩, ?_⟩
      · rw [hlp]
        rw [hlp] at c3
        exact World.putObj_heap_same (Array.getElem?_eq_some_iff.1 c3).1
      · rw [hs]
        exact hKt (hKt bk (hKm kp)) (hKp _ Y _ _ _ (by omega) (by omega) c3 rfl rfl)
    · rintro e W ⟨⟨v, rfl⟩, h1, h2, h3⟩
      have he := run_endLoop (P := Try.prog) h3 (by rw [hlp]; simp)
      rw [show (lp .ready).pending = none by rw [hlp]] at he
      exact ⟨none, _, he, hdone _ _ (Nat.le_refl _) (hI.putObj _ h1 (by omega) h3 rfl) ((World.putObj_heap_other (by omega)).trans h2)⟩

end Go.Proofs.Ytmbffbjopehllaa

/- The contracts of slices.Values, slices.AppendSeq and slices.Collect at terms. -/

namespace Go.Proofs.Ytmbffbjopehllaa
open Go.RowKit Go.Shelf

attribute [local go_sem] Oper.semAt_some

abbrev encM (x : Tm) : Array Value := #[.agg #[.int .i64 x.c, .string x.s]]
abbrev ST : TypeId := 25

/-- The box B holds a slice that owns the terms. -/
def HoldT (base B : Nat) (pre : List Tm) (W : World) : Prop :=
  ∃ v, Boxed W B ST v ∧ W.ownsRow base TI 2 v pre.length (termsV pre) ∧ True
theorem HoldT.own (base B : Nat) : Own (HoldT base B) := holdsRow_own base B ST TI 2 (fun pre : List Tm => pre.length) (fun pre => termsV pre) (fun _ _ => True)

end Go.Proofs.Ytmbffbjopehllaa

/- The library's sort, at terms and 'compareTerms'. -/

namespace Go.Proofs.Ytmbffbjopehllaa
open Go.Shelf Go.RowKit Go.Lib Go.Sort

def sortT_ren : Go.Shelf.Ren := ⟨fun | 6 => 78 | 15 => 97 | 14 => 96 | 28 => 111 | 29 => 112 | 20 => 103 | 21 => 104 | 22 => 105 | 23 => 106 | 24 => 107 | 25 => 108 | 26 => 109 | 27 => 110 | 46 => 113 | 47 => 114 | 48 => 115 | 49 => 116 | 50 => 117 | 57 => 118 | n => n, fun | 22 => 25 | 24 => 44 | 25 => 52 | 3 => 3 | 39 => 122 | 0 => 0 | 53 => 133 | 55 => 135 | 4 => 4 | 46 => 127 | 45 => 126 | 50 => 35 | 5 => 5 | 9 => 9 | 66 => 136 | 70 => 140 | 76 => 142 | 77 => 143 | n => n, fun n => n⟩
theorem sortT : SlLaysF0.n6 Try.prog sortT_ren := {
  mixed := by kernel_rfl
  f6 := Exists.intro "slices.SortFunc[[]loop.example/foxcalculus/impl.Term,loop.example/foxcalculus/impl.Term]" ⟨of_decide_eq_true (by kernel_rfl), Try.func78.trans (congrArg some (by kernel_rfl))⟩
  f14 := Exists.intro "slices.pdqsortCmpFunc[loop.example/foxcalculus/impl.Term]" ⟨of_decide_eq_true (by kernel_rfl), Try.func96.trans (congrArg some (by kernel_rfl))⟩
  f15 := Try.func97.trans (congrArg some (by kernel_rfl))
  f20 := Exists.intro "slices.insertionSortCmpFunc[loop.example/foxcalculus/impl.Term]" ⟨of_decide_eq_true (by kernel_rfl), Try.func103.trans (congrArg some (by kernel_rfl))⟩
  f21 := Exists.intro "slices.heapSortCmpFunc[loop.example/foxcalculus/impl.Term]" ⟨of_decide_eq_true (by kernel_rfl), Try.func104.trans (congrArg some (by kernel_rfl))⟩
  f22 := Exists.intro "slices.breakPatternsCmpFunc[loop.example/foxcalculus/impl.Term]" ⟨of_decide_eq_true (by kernel_rfl), Try.func105.trans (congrArg some (by kernel_rfl))⟩
  f23 := Exists.intro "slices.choosePivotCmpFunc[loop.example/foxcalculus/impl.Term]" ⟨of_decide_eq_true (by kernel_rfl), Try.func106.trans (congrArg some (by kernel_rfl))⟩
  f24 := Exists.intro "slices.reverseRangeCmpFunc[loop.example/foxcalculus/impl.Term]" ⟨of_decide_eq_true (by kernel_rfl), Try.func107.trans (congrArg some (by kernel_rfl))⟩
  f25 := Exists.intro "slices.partialInsertionSortCmpFunc[loop.example/foxcalculus/impl.Term]" ⟨of_decide_eq_true (by kernel_rfl), Try.func108.trans (congrArg some (by kernel_rfl))⟩
  f26 := Exists.intro "slices.partitionEqualCmpFunc[loop.example/foxcalculus/impl.Term]" ⟨of_decide_eq_true (by kernel_rfl), Try.func109.trans (congrArg some (by kernel_rfl))⟩
  f27 := Exists.intro "slices.partitionCmpFunc[loop.example/foxcalculus/impl.Term]" ⟨of_decide_eq_true (by kernel_rfl), Try.func110.trans (congrArg some (by kernel_rfl))⟩
  f28 := Try.func111.trans (congrArg some (by kernel_rfl))
  f29 := Try.func112.trans (congrArg some (by kernel_rfl))
  f46 := Exists.intro "slices.siftDownCmpFunc[loop.example/foxcalculus/impl.Term]" ⟨of_decide_eq_true (by kernel_rfl), Try.func113.trans (congrArg some (by kernel_rfl))⟩
  f47 := Try.func114.trans (congrArg some (by kernel_rfl))
  f48 := Try.func115.trans (congrArg some (by kernel_rfl))
  f49 := Exists.intro "slices.medianAdjacentCmpFunc[loop.example/foxcalculus/impl.Term]" ⟨of_decide_eq_true (by kernel_rfl), Try.func116.trans (congrArg some (by kernel_rfl))⟩
  f50 := Exists.intro "slices.medianCmpFunc[loop.example/foxcalculus/impl.Term]" ⟨of_decide_eq_true (by kernel_rfl), Try.func117.trans (congrArg some (by kernel_rfl))⟩
  f57 := Exists.intro "slices.order2CmpFunc[loop.example/foxcalculus/impl.Term]" ⟨of_decide_eq_true (by kernel_rfl), Try.func118.trans (congrArg some (by kernel_rfl))⟩
  t0 := Try.underlying0
  a0 := Try.isAgg0
  z0 := Try.sizeOf0
  v0 := Try.zeroValue0
  t3 := Try.underlying3
  a3 := Try.isAgg3
  z3 := Try.sizeOf3
  v3 := Try.zeroValue3
  t4 := Try.underlying4
  a4 := Try.isAgg4
  z4 := Try.sizeOf4
  v4 := Try.zeroValue4
  t5 := Try.underlying5
  a5 := Try.isAgg5
  z5 := Try.sizeOf5
  v5 := Try.zeroValue5
  t9 := Try.underlying9
  a9 := Try.isAgg9
  z9 := Try.sizeOf9
  v9 := Try.zeroValue9
  t22 := Try.underlying25
  a22 := Try.isAgg25
  z22 := Try.sizeOf25
  v22 := Try.zeroValue25
  t25 := Try.underlying52
  a25 := Try.isAgg52
  z25 := Try.sizeOf52
  v25 := Try.zeroValue52
  t39 := Try.underlying122
  a39 := Try.isAgg122
  z39 := Try.sizeOf122
  v39 := Try.zeroValue122
  t45 := Try.underlying126
  a45 := Try.isAgg126
  z45 := Try.sizeOf126
  v45 := Try.zeroValue126
  t46 := Try.underlying127
  a46 := Try.isAgg127
  z46 := Try.sizeOf127
  v46 := Try.zeroValue127
  t50 := Try.underlying35
  a50 := Try.isAgg35
  z50 := Try.sizeOf35
  v50 := Try.zeroValue35
  t53 := Try.underlying133
  a53 := Try.isAgg133
  z53 := Try.sizeOf133
  v53 := Try.zeroValue133
  t55 := Try.underlying135
  a55 := Try.isAgg135
  z55 := Try.sizeOf135
  v55 := Try.zeroValue135
  t66 := Try.underlying136
  a66 := Try.isAgg136
  z66 := Try.sizeOf136
  v66 := Try.zeroValue136
  t70 := Try.underlying140
  a70 := Try.isAgg140
  z70 := Try.sizeOf140
  v70 := Try.zeroValue140
  t76 := Try.underlying142
  a76 := Try.isAgg142
  z76 := Try.sizeOf142
  v76 := Try.zeroValue142
  t77 := Try.underlying143
  a77 := Try.isAgg143
  z77 := Try.sizeOf143
  v77 := Try.zeroValue143 }

def encT (t : Tm) : List Value := [.int .i64 t.c, .string t.s]
def cmpT (a b : Tm) : Int := cmpW a.s b.s
theorem ltOf_cmpT (a b : Tm) : ltOf cmpT a b = lessW a.s b.s := by rw [lessW_cmp]; rfl
theorem swoT : SWO (ltOf cmpT) where
  irrefl x := by rw [ltOf_cmpT]; exact lessW_irrefl _
  trans x y z h1 h2 := by rw [ltOf_cmpT] at *; exact lessW_trans h1 h2
  ntrans x y z h1 h2 := by
    rw [ltOf_cmpT] at *
    cases h3 : lessW x.s z.s with
    | false => rfl
    | true =>
      cases h4 : lessW y.s x.s with
      | true => have := lessW_trans h4 h3; rw [h2] at this; cases this
      | false => have := lessW_tri h1 h4; rw [this, h2] at h3; cases h3

theorem cmpLaysT (blk off size : Nat) (w : World) : CmpLays Try.prog 38 #[] encT 2 cmpT blk off size w :=
  fun _ _ _ _ x y => compareTerms_any x y _

theorem sortTerms (blk off cap : Nat) (d : Array Tm) (w : World) (hH : HoldsK encT 2 w blk off d) (hblk : blk < w.heap.size) (hsz : d.size < 4611686018427387904) :
    Calls Try.prog 78 #[.slice (some ⟨blk, off, none⟩) d.size cap, .func (.func 38) #[] #[]] w fun e w' => e = .returned (.tuple #[]) ∧ ∃ d' n os, PermIn 0 d.size d d' ∧ SortedIn (ltOf cmpT) 0 d.size d' ∧ w' = sortWorldK encT 2 w blk off n d' os :=
  AnyQ.slices_SortFunc sortT 2 Try.isAgg44 Try.sizeOf44 encT (fun _ => rfl) (fun x v hv => by simp [encT] at hv; rcases hv with rfl | rfl <;> rfl) cmpT swoT 38 #[] blk off cap d w
    (enters_of Try.func38 (by kernel_rfl) rfl) (cmpLaysT blk off d.size w) hH hblk hsz

end Go.Proofs.Ytmbffbjopehllaa

/- The contract of slices.SortedFunc at terms. -/

namespace Go.Proofs.Ytmbffbjopehllaa
open Go.RowKit Go.Shelf Go.Sort

theorem flat_terms (d : Array Tm) : flatK encT 2 d = (termsV d.toList).toArray := by
  apply Array.toList_inj.1
  apply List.ext_getElem
  · simp [flatK, termsV_len]
  · intro j h1 h2
    have hj : j < d.size * 2 := by simpa [flatK] using h1
    have hq : j / 2 < d.toList.length := by simp; omega
    have hg := termsV_get d.toList (j / 2) hq
    have e1 : (flatK encT 2 d).toList[j] = (encT d[j / 2]!)[j % 2]! := by simp [flatK]
    have e0 : d[j / 2]! = d.toList[j / 2] := by rw [getElem!_pos d (j / 2) (by simpa using hq)]; simp
    rw [e1, e0]
    rcases Nat.mod_two_eq_zero_or_one j with h | h
    · rw [h]
      have e2 : j / 2 * 2 = j := by omega
      rw [e2] at hg
      exact ((List.getElem?_eq_some_iff.1 hg.1).2).symm
    · rw [h]
      have e2 : j / 2 * 2 + 1 = j := by omega
      rw [e2] at hg
      exact ((List.getElem?_eq_some_iff.1 hg.2).2).symm

theorem holdsK_of_owns {w : World} {base g cap n : Nat} {ts : List Tm} (hn : ts.length = n) (h : w.ownsRow base TI 2 (.slice (some ⟨g, 0, none⟩) n cap) n (termsV ts)) : HoldsK encT 2 w g 0 ts.toArray := by
  unfold HoldsK
  rw [flat_terms]
  intro j hj
  have hj2 : j < (termsV ts).length := by simpa using hj
  have hj3 : j < n * 2 := by rw [termsV_len] at hj2; omega
  refine ⟨?_, by rw [Nat.zero_add]; exact h.frozenAt j⟩
  rw [Nat.zero_add, h.cellAt j hj3, List.getElem?_eq_getElem hj2]
  simp only [id]
  rw [getElem!_pos _ j (by simpa using hj2)]
  simp

theorem owns_put {w : World} {base g cap n m : Nat} {os : Array Obj} {F : List Value} {xs : List Value} (hF : F.length = n * 2) (h : w.ownsRow base TI 2 (.slice (some ⟨g, 0, none⟩) n cap) n xs) :
    (grow (putRow id (Sort.ahead w m) g 0 F.toArray) os).ownsRow base TI 2 (.slice (some ⟨g, 0, none⟩) n cap) n F ∧ w.grownBy (grow (putRow id (Sort.ahead w m) g 0 F.toArray) os) (some g) := by
  rcases h.2 with ⟨h, _⟩ | ⟨g1, cap1, cur, h1, hb, hg, hn, hc, hs, ht⟩
  · cases h
  · cases h1
    have hlt : g < w.heap.size := (Array.getElem?_eq_some_iff.1 hg).1
    have hh : (grow (putRow id (Sort.ahead w m) g 0 F.toArray) os).heap[g]? = some (.cells (putCells id 0 F.toArray cur) TI (0, 0)) := by
      rw [heap_grow_old _ _ (by simpa using hlt)]
      simp [putRow, mapBlock, Sort.ahead, Array.getElem?_modify, hg, onCells]
    refine ⟨⟨hF, .inr ⟨g, cap, _, rfl, hb, hh, hn, hc, by simp [putCells, hs], ?_⟩⟩, ⟨rfl, rfl, rfl, by simp, fun k hk hne => ?_⟩⟩
    · have hle : F.length ≤ cur.size := by rw [hs, hF]; omega
      rw [← hF]
      apply List.ext_getElem?
      intro j
      by_cases hj : j < F.length
      · rw [List.getElem?_take_of_lt hj, Array.getElem?_toList]
        simp [putCells, hj, show j < cur.size by omega]
      · rw [List.getElem?_take_eq_none (by omega), List.getElem?_eq_none (by omega)]
    · rw [heap_grow_old _ _ (by simpa using hk)]
      have : g ≠ k := fun e => hne (by rw [e])
      simp [putRow, mapBlock, Sort.ahead, Array.getElem?_modify, this]

theorem perm_of {ts : List Tm} {d : Array Tm} (h : PermIn 0 ts.toArray.size ts.toArray d) : d.toList.Perm ts := by
  obtain ⟨h1, _, h3⟩ := h
  have e1 : d.extract 0 ts.toArray.size = d := by rw [← h1]; simp
  have e2 : ts.toArray.extract 0 ts.toArray.size = ts.toArray := by simp
  rw [e1, e2] at h3
  simpa using h3
theorem sorted_of {d : Array Tm} {n : Nat} (hn : d.size = n) (h : SortedIn (ltOf cmpT) 0 n d) : d.toList.Pairwise (fun a b => lessW b.s a.s = false) := by
  rw [List.pairwise_iff_getElem]
  intro i j hi hj hij
  have := h i j (Nat.zero_le _) hij (by rw [← hn]; simpa using hj)
  rw [ltOf_cmpT, getElem!_pos d j (by simpa using hj), getElem!_pos d i (by simpa using hi)] at this
  simpa using this

/-- The library's sort on a row of the call's own. -/
theorem sortOwn_any (base : Nat) (v : Value) (n : Nat) (ts : List Tm) (w : World) (hn : ts.length = n) (hm : n ≤ 1000000) (hbase : base ≤ w.heap.size) (h : w.ownsRow base TI 2 v n (termsV ts)) :
    Calls Try.prog 78 #[v, .func (.func 38) #[] #[]] w fun e w' =>
      e = .returned (.tuple #[]) ∧ (∃ ss : List Tm, ss.Perm ts ∧ ss.Pairwise (fun a b => lessW b.s a.s = false) ∧ w'.ownsRow base TI 2 v n (termsV ss)) ∧ Below base w w' := by
  by_cases h0 : n = 0
  · subst h0
    obtain rfl := List.length_eq_zero_iff.1 hn
    obtain ⟨p, cap, rfl⟩ : ∃ p cap, v = .slice p 0 cap := by
      rcases h.2 with ⟨rfl, _⟩ | ⟨g, cap, cur, rfl, _⟩
      · exact ⟨_, _, rfl⟩
      · exact ⟨_, _, rfl⟩
    refine (AnyF.slices_SortFunc_none (ρ := sortT_ren) { sortT with } p cap (.func (.func 38) #[] #[]) w).mono ?_
    rintro e w' ⟨rfl, rfl⟩
    exact ⟨rfl, ⟨[], List.Perm.refl _, List.Pairwise.nil, h⟩, Below.refl _ _⟩
  · rcases h.2 with ⟨rfl, h0'⟩ | ⟨g, cap, cur, rfl, hb, hg, hnc, hcm, _⟩
    · exact absurd h0' h0
    have hs := sortTerms g 0 cap ts.toArray w (holdsK_of_owns hn h) (Array.getElem?_eq_some_iff.1 hg).1 (by simp; omega)
    rw [show ts.toArray.size = n by simpa using hn] at hs
    refine hs.mono ?_
    rintro e w' ⟨rfl, d', m, os, hp, hso, rfl⟩
    have hsz : d'.size = n := by rw [hp.1]; simpa using hn
    have hp' : PermIn 0 ts.toArray.size ts.toArray d' := by rw [show ts.toArray.size = n by simpa using hn]; exact hp
    have ho := owns_put (m := m) (os := os) (F := termsV d'.toList) (by rw [termsV_len]; simp [hsz]) h
    have e1 : sortWorldK encT 2 w g 0 m d' os = grow (putRow id (Sort.ahead w m) g 0 (termsV d'.toList).toArray) os := by
      unfold sortWorldK putRowK; rw [flat_terms]
    rw [e1]
    exact ⟨rfl, ⟨d'.toList, perm_of hp', sorted_of hsz hso, ho.1⟩, (Below.refl _ _).grown ho.2 hbase (fun j ej => by cases ej; exact hb)⟩

end Go.Proofs.Ytmbffbjopehllaa

/- The contracts of the program's 'joinTerms' and 'push'. -/

namespace Go.Proofs.Ytmbffbjopehllaa
open Go.RowKit Go.Shelf

/-- All below B as it was, but for the block bs. -/
structure BelowBut (bs B : Nat) (w w' : World) : Prop where
  os : w'.os = w.os
  tape : w'.tape = w.tape
  output : w'.output = w.output
  size : w.heap.size ≤ w'.heap.size
  block : ∀ k, k < B → k ≠ bs → w'.heap[k]? = w.heap[k]?
theorem BelowBut.refl (bs B : Nat) (w : World) : BelowBut bs B w w := ⟨rfl, rfl, rfl, Nat.le_refl _, fun _ _ _ => rfl⟩
theorem BelowBut.trans {bs B : Nat} {a b c : World} (h : BelowBut bs B a b) (k : BelowBut bs B b c) : BelowBut bs B a c :=
  ⟨k.os.trans h.os, k.tape.trans h.tape, k.output.trans h.output, Nat.le_trans h.size k.size, fun i hi hb => (k.block i hi hb).trans (h.block i hi hb)⟩
theorem BelowBut.of {B : Nat} {w w' : World} (bs : Nat) (h : Below B w w') : BelowBut bs B w w' := ⟨h.os, h.tape, h.output, h.size, fun k hk _ => h.block k hk⟩

abbrev SrT : TypeId := 54
abbrev CF : Value := .func (.func 38) #[] #[]
/-- The struct at bs holds the terms. -/
def HoldS (base bs : Nat) (acc : List Tm) (W : World) : Prop :=
  ∃ v, W.heap[bs]? = some (.cells #[v, CF] SrT (0, 0)) ∧ W.ownsRow base TI 2 v acc.length (termsV acc)

/-- What the calls of push share. -/
theorem push_cells {base bs : Nat} {acc : List Tm} {w : World} (h : HoldS base bs acc w) (hbs : bs < base) (hbase : base ≤ w.heap.size) (x : Tm) :
    ∃ v, (w.alloc (.cells #[.int .i64 x.c, .string x.s] TI)).cell? ⟨bs, 0, none⟩ = some v ∧ (w.alloc (.cells #[.int .i64 x.c, .string x.s] TI)).cell? ⟨bs, 1, none⟩ = some CF ∧
      (w.alloc (.cells #[.int .i64 x.c, .string x.s] TI)).cell? ⟨w.heap.size, 0, none⟩ = some (.int .i64 x.c) ∧ (w.alloc (.cells #[.int .i64 x.c, .string x.s] TI)).cell? ⟨w.heap.size, 1, none⟩ = some (.string x.s) ∧
      (w.alloc (.cells #[.int .i64 x.c, .string x.s] TI)).ownsRow base TI 2 v acc.length (termsV acc) ∧ (w.alloc (.cells #[.int .i64 x.c, .string x.s] TI)).heap[bs]? = some (.cells #[v, CF] SrT (0, 0)) ∧ ∀ j, v.ownBlock = some j → base ≤ j ∧ j < w.heap.size := by
  obtain ⟨v, hbx, hrow⟩ := h
  have hbV : Below w.heap.size w (w.alloc (.cells #[.int .i64 x.c, .string x.s] TI)) := (Below.refl _ _).alloc (Nat.le_refl _) _
  have hbxV := (hbV.block bs (by omega)).trans hbx
  have hxV : (w.alloc (.cells #[.int .i64 x.c, .string x.s] TI)).heap[w.heap.size]? = some (.cells #[.int .i64 x.c, .string x.s] TI (0, 0)) := World.alloc_heap_new _ _
  exact ⟨v, by simp [World.cell?, hbxV], by simp [World.cell?, hbxV], (by unfold World.cell?; rw [hxV]; rfl), (by unfold World.cell?; rw [hxV]; rfl), hrow.alloc _, hbxV, fun j ej => by
    rcases hrow.2 with ⟨rfl, _⟩ | ⟨g1, cap1, cur1, rfl, hg1, hg2, _⟩
    · cases ej
    · simp [Value.ownBlock] at ej
      subst ej
      exact ⟨hg1, (Array.getElem?_eq_some_iff.1 hg2).1⟩⟩

theorem HoldS.set {bs : Nat} {w : World} {v : Value} (h : w.heap[bs]? = some (.cells #[v, CF] SrT (0, 0))) (u : Value) : (w.setCell ⟨bs, 0, none⟩ u).heap[bs]? = some (.cells #[u, CF] SrT (0, 0)) := by
  simp [World.setCell, Array.getElem?_modify, h]
theorem bs_frozen {bs : Nat} {w : World} {v : Value} (h : w.heap[bs]? = some (.cells #[v, CF] SrT (0, 0))) : w.frozen? ⟨bs, 0, none⟩ = false := by
  simp [World.frozen?, h]
theorem frozen_past {w : World} {a : Addr} (h : w.frozen? a = false) (hb : a.block < w.heap.size) (o : Obj) : (w.alloc o).frozen? a = false :=
  (World.frozen?_of_block (w := w) (Below.heap_alloc w o a.block hb)).trans h
theorem ownLow {W : World} {base : Nat} {e : TypeId} {size : Nat} {v : Value} {n : Nat} {xs : List Value} (h : W.ownsRow base e size v n xs) : ∀ j, v.ownBlock = some j → base ≤ j := by
  intro j ej
  rcases h.2 with ⟨rfl, _⟩ | ⟨g1, cap1, cur1, rfl, hg1, _⟩
  · cases ej
  · simp [Value.ownBlock] at ej
    subst ej
    exact hg1
/-- What an append stored into the struct leaves. -/
theorem push_done {base bs m : Nat} {W w1 : World} {v v' : Value} {o : Obj} {us : List Tm} {xs zs : List Value} {n : Nat} (hbx : W.heap[bs]? = some (.cells #[v, CF] SrT (0, 0))) (hbs : bs < base) (hbase : base ≤ W.heap.size)
    (hrow : W.ownsRow base TI 2 v n zs) (hown1 : w1.ownsRow base TI 2 v' m xs) (hm : m = us.length) (hx : xs = termsV us) (hgrow : (W.drew.alloc o).grownBy w1 v.ownBlock) :
    HoldS base bs us (w1.setCell ⟨bs, 0, none⟩ v') ∧ BelowBut bs base W (w1.setCell ⟨bs, 0, none⟩ v') := by
  have hl := ownLow hrow
  have hB : Below base W w1 := ((Below.refl base W).drew.alloc (by show base ≤ W.heap.size; exact hbase) _).grown hgrow (by simp; show base ≤ W.heap.size + 1; omega) hl
  have h1 : w1.heap[bs]? = some (.cells #[v, CF] SrT (0, 0)) := (hB.block bs hbs).trans hbx
  refine ⟨⟨v', HoldS.set h1 v', ?_⟩, (BelowBut.of bs hB).trans ⟨rfl, rfl, rfl, (KeepsWalks.setCell w1 _ _).size, fun k _ hk => Below.heap_setCell _ _ _ k hk⟩⟩
  rw [← hm, ← hx]
  exact ownsRow_setCell_below hown1 hbs _

theorem add_off (g n : Nat) : (⟨g, 0, none⟩ : Addr).add n = ⟨g, n, none⟩ := by
  unfold Addr.add
  by_cases h : n = 0
  · subst h; simp
  · simp [h]
theorem compareBytes_zero : ∀ a b : List UInt8, Lib.compareBytes a b = 0 → a = b
  | [], [], _ => rfl
  | [], _ :: _, h => by simp [Lib.compareBytes] at h
  | _ :: _, [], h => by simp [Lib.compareBytes] at h
  | a :: ar, b :: bs, h => by
    unfold Lib.compareBytes at h
    by_cases h1 : a < b
    · rw [if_pos h1] at h; cases h
    · by_cases h2 : b < a
      · rw [if_neg h1, if_pos h2] at h; cases h
      · rw [if_neg h1, if_neg h2] at h
        rw [compareBytes_zero ar bs h]
        have : a = b := by
          apply UInt8.toNat_inj.1
          rw [UInt8.lt_iff_toNat_lt] at h1 h2
          omega
        rw [this]
theorem cmpW_zero {a b : ByteArray} (h : cmpW a b = 0) : a = b := by
  unfold cmpW orInt at h
  split at h
  · exact ByteArray.ext (Array.ext' (compareBytes_zero _ _ h))
  · rename_i h0
    exact absurd h (by first | exact h0 | simpa using h0)
theorem compareBytes_self : ∀ a : List UInt8, Lib.compareBytes a a = 0
  | [] => rfl
  | a :: ar => by
    unfold Lib.compareBytes
    rw [if_neg (by rw [UInt8.lt_iff_toNat_lt]; omega), if_neg (by rw [UInt8.lt_iff_toNat_lt]; omega)]
    exact compareBytes_self ar
theorem cmpW_self (a : ByteArray) : cmpW a a = 0 := by
  unfold cmpW orInt Lib.compareInt
  simp [compareBytes_self]

end Go.Proofs.Ytmbffbjopehllaa

/- The contract of the program's 'push'. -/

namespace Go.Proofs.Ytmbffbjopehllaa
open Go.RowKit Go.Shelf

theorem set_last (pre : List Tm) (l : Tm) (c : Int) (k : Nat) (hk : pre.length = k) :
    ((termsV (pre ++ [l])).set (k * 2) (.int .i64 c)).set (k * 2 + 1) (.string l.s) = termsV (pre ++ [⟨c, l.s⟩]) := by
  have hl := termsV_len pre
  rw [hk] at hl
  rw [termsV_append, termsV_append, List.set_append_right _ _ (by omega), List.set_append_right _ _ (by omega), hl, Nat.sub_self, show k * 2 + 1 - k * 2 = 1 by omega]
  rfl
/-- What the join that is stored leaves. -/
theorem join_done {base bs g k cap : Nat} {w W w2 : World} {pre us : List Tm} {l : Tm} {c : Int} (HBB : BelowBut bs base w W) (hb2 : Below W.drew.heap.size W.drew w2)
    (hbx : W.heap[bs]? = some (.cells #[.slice (some ⟨g, 0, none⟩) (k + 1) cap, CF] SrT (0, 0))) (hrow : W.ownsRow base TI 2 (.slice (some ⟨g, 0, none⟩) (k + 1) cap) (k + 1) (termsV us))
    (hus : pre ++ [l] = us) (hk : pre.length = k) (hbs : bs < base) (hgb : base ≤ g) (hbase : base ≤ W.heap.size) :
    HoldS base bs (pre ++ [⟨c, l.s⟩]) ((w2.setCell ⟨g, k * 2, none⟩ (.int .i64 c)).setCell ⟨g, k * 2 + 1, none⟩ (.string l.s)) ∧
      BelowBut bs base w ((w2.setCell ⟨g, k * 2, none⟩ (.int .i64 c)).setCell ⟨g, k * 2 + 1, none⟩ (.string l.s)) := by
  subst hus
  have hB : Below W.heap.size W w2 := (Below.refl _ W).drew.trans hb2
  have hll : (pre ++ [l]).length = k + 1 := by rw [List.length_append, hk]; rfl
  have hr2 : w2.ownsRow base TI 2 (.slice (some ⟨g, 0, none⟩) (k + 1) cap) (k + 1) (termsV (pre ++ [l])) := by
    rw [← hll] at hrow ⊢
    exact OwnT.below hrow hB
  have hst := ((hr2.stored (k * 2) (.int .i64 c)).1.stored (k * 2 + 1) (.string l.s)).1
  rw [set_last pre l c k hk] at hst
  have hb3 : Below base W ((w2.setCell ⟨g, k * 2, none⟩ (.int .i64 c)).setCell ⟨g, k * 2 + 1, none⟩ (.string l.s)) :=
    ((hB.mono hbase).setCell (p := ⟨g, k * 2, none⟩) hgb _).setCell (p := ⟨g, k * 2 + 1, none⟩) hgb _
  have hl2 : (pre ++ [(⟨c, l.s⟩ : Tm)]).length = k + 1 := by rw [List.length_append, hk]; rfl
  exact ⟨⟨_, (hb3.block bs hbs).trans hbx, by rw [hl2]; exact hst⟩, HBB.trans (BelowBut.of bs hb3)⟩

end Go.Proofs.Ytmbffbjopehllaa

/- The contracts of the program's 'push' (all ways in one) and 'gathered'. -/

namespace Go.Proofs.Ytmbffbjopehllaa
open Go.RowKit Go.Shelf

theorem push_len (acc : List Tm) (t : Tm) : (pushT acc t).length ≤ acc.length + 1 := by
  rcases List.eq_nil_or_concat acc with rfl | ⟨b, l, rfl⟩
  · rw [push_nil]; simp
  · rw [List.concat_eq_append, push_last]; split <;> simp
theorem push_bnd {acc : List Tm} {t : Tm} {B C : Int} (h : ∀ u ∈ acc, -B ≤ u.c ∧ u.c ≤ B) (ht : -C ≤ t.c ∧ t.c ≤ C) (hB : 0 ≤ B) (hC : 0 ≤ C) : ∀ u ∈ pushT acc t, -(B + C) ≤ u.c ∧ u.c ≤ B + C := by
  intro u hu
  rcases List.eq_nil_or_concat acc with rfl | ⟨b, l, rfl⟩
  · rw [push_nil] at hu; rw [List.mem_singleton.1 hu]; omega
  · rw [List.concat_eq_append] at *
    rw [push_last] at hu
    have hl := h l (by simp)
    split at hu
    · rcases List.mem_append.1 hu with hu | hu
      · have := h u (by simp [hu]); omega
      · rw [List.mem_singleton.1 hu]; show -(B + C) ≤ l.c + t.c ∧ l.c + t.c ≤ B + C; omega
    · rcases List.mem_append.1 hu with hu | hu
      · have := h u hu; omega
      · rw [List.mem_singleton.1 hu]; omega
theorem merge_take {ts : List Tm} {k : Nat} (hk : k < ts.length) : mergeT (ts.take (k + 1)) = pushT (mergeT (ts.take k)) ts[k] := by
  unfold mergeT
  rw [List.take_add_one, List.getElem?_eq_getElem hk, List.foldl_append]
  rfl
theorem merge_len (ts : List Tm) : ∀ k, (mergeT (ts.take k)).length ≤ k
  | 0 => by simp [mergeT]
  | k + 1 => by
    by_cases hk : k < ts.length
    · rw [merge_take hk]
      have := push_len (mergeT (ts.take k)) ts[k]
      have := merge_len ts k
      omega
    · have := merge_len ts k
      rw [List.take_of_length_le (by omega)] at this ⊢
      omega
theorem merge_bnd {ts : List Tm} {C : Int} (hC : 0 ≤ C) (h : ∀ u ∈ ts, -C ≤ u.c ∧ u.c ≤ C) : ∀ k : Nat, ∀ u ∈ mergeT (ts.take k), -(C * k) ≤ u.c ∧ u.c ≤ C * k
  | 0, u, hu => by simp [mergeT] at hu
  | k + 1, u, hu => by
    have e : C * ((k + 1 : Nat) : Int) = C * k + C := by rw [Int.natCast_add, Int.mul_add]; simp
    have hk0 : 0 ≤ C * (k : Int) := Int.mul_nonneg hC (Int.natCast_nonneg _)
    rw [e]
    by_cases hk : k < ts.length
    · rw [merge_take hk] at hu
      exact push_bnd (merge_bnd hC h k) (h _ (List.getElem_mem hk)) hk0 hC u hu
    · rw [List.take_of_length_le (by omega)] at hu
      have := merge_bnd hC h k u (by rw [List.take_of_length_le (by omega)]; exact hu)
      omega
theorem merge_all (ts : List Tm) : mergeT (ts.take ts.length) = mergeT ts := by rw [List.take_of_length_le (Nat.le_refl _)]

theorem HoldS.alloc {base bs : Nat} {acc : List Tm} {w : World} (h : HoldS base bs acc w) (hb : bs < w.heap.size) (o : Obj) : HoldS base bs acc (w.alloc o) := by
  obtain ⟨v, h1, h2⟩ := h
  exact ⟨v, (Below.heap_alloc _ _ _ hb).trans h1, h2.alloc _⟩
theorem smallT_perm {ss ts : List Tm} (hp : ss.Perm ts) (hl : ts.length ≤ maxLen) (h : ∀ t ∈ ts, t.s.size ≤ maxLen ∧ -9223372036854775808 ≤ t.c ∧ t.c ≤ 9223372036854775807) : SmallT ss :=
  ⟨by rw [hp.length_eq]; exact hl, fun t ht => h t (hp.mem_iff.1 ht)⟩

end Go.Proofs.Ytmbffbjopehllaa

/- The contracts of the laws' own helpers that mark memory and look the marks up. -/

namespace Go.Proofs.Ytmbffbjopehllaa
open Go.RowKit Go.Shelf

/-- A term is stored: its two cells. -/
theorem set_terms (us : List Tm) (i : Nat) (t : Tm) (hi : i < us.length) : ((termsV us).set (i * 2) (.int .i64 t.c)).set (i * 2 + 1) (.string t.s) = termsV (us.set i t) := by
  have e : us = us.take i ++ us[i] :: us.drop (i + 1) := by rw [List.getElem_cons_drop]; exact (List.take_append_drop i us).symm
  have hl : (termsV (us.take i)).length = i * 2 := by rw [termsV_len, List.length_take, Nat.min_eq_left (by omega)]
  have hset : us.set i t = us.take i ++ t :: us.drop (i + 1) := by rw [List.set_eq_take_append_cons_drop, if_pos hi]
  rw [hset]
  have e2 : termsV us = termsV (us.take i) ++ .int .i64 us[i].c :: .string us[i].s :: termsV (us.drop (i + 1)) := by
    rw [← termsV_cons, ← termsV_append, ← e]
  rw [e2, termsV_append, termsV_cons, List.set_append_right _ _ (by omega), List.set_append_right _ _ (by omega), hl, Nat.sub_self, show i * 2 + 1 - i * 2 = 1 by omega]
  rfl

/-- The text of a mark. -/
def mkB (m : Nat) (t : ByteArray) : ByteArray :=
  if _h : m = 0 then t else mkB (m / 10) (⟨#[UInt8.ofNat (48 + m % 10)]⟩ ++ t)
termination_by m
decreasing_by omega
theorem mkB_zero (t : ByteArray) : mkB 0 t = t := by rw [mkB]; simp
theorem mkB_step {m : Nat} (h : m ≠ 0) (t : ByteArray) : mkB (m / 10) (⟨#[UInt8.ofNat (48 + m % 10)]⟩ ++ t) = mkB m t := by conv => rhs; rw [mkB, dif_neg h]
def mkS (k : Nat) : ByteArray := ⟨#[109]⟩ ++ mkB k ⟨#[]⟩

set_option maxRecDepth 100000 in
set_option maxHeartbeats 1000000 in
theorem markText_any (k : Nat) (w : World) (hk0 : 0 < k) (hk : k ≤ 100000000) :
    Calls Try.prog 49 #[.int .i64 k] w fun e w' => e = .returned (.string (mkS k)) ∧ Below w.heap.size w w' := by
  have hk1 : ¬ k = 0 := by omega
  have hk2 : decide (k = 0) = false := decide_eq_false hk1
  go_enter Try.func49, Try.ntmps49
  go_wp2
  go_loopw [0, 3] (fun p s wr => ∃ (m : Nat) (t : ByteArray), p = .int .i64 m ∧ s = .string t ∧ Hid (mkB m t = mkB k ⟨#[]⟩) ∧ t.size + m ≤ k ∧ Hid (Below w.heap.size w wr)) (fun p _ _ => (intOf p).toNat)
  case atStart => exact ⟨k, ⟨#[]⟩, rfl, rfl, Lib.hid rfl, Nat.le_of_eq (Nat.zero_add k), Lib.hid (Below.refl _ _)⟩
  case round =>
    obtain ⟨m, t, rfl, rfl, HM, hsz, HB⟩ := hrel
    by_cases hm : m = 0
    · subst hm
      go_wp2
      go_ret
      refine ⟨?_, HB.out⟩
      rw [mkS, ← HM.out, mkB_zero]
      rfl
    · have hm0 : 0 < m := by omega
      have hlt : m % 10 < 10 := Nat.mod_lt _ (by omega)
      have hval : ((UInt8.ofNat (48 + m % 10)).toNat : Int) = 48 + (m : Int) % 10 := by
        rw [UInt8.toNat_ofNat']
        rw [Nat.mod_eq_of_lt (by omega)]
        omega
      have hconv : (convert 40 9 (.slice (some ⟨wr.heap.size, 0, none⟩) 1 1)).run Try.prog (wr.alloc (.cells #[.int .u8 (48 + (m : Int) % 10)] 5)) = .ok (.string ⟨#[UInt8.ofNat (48 + m % 10)]⟩) (wr.alloc (.cells #[.int .u8 (48 + (m : Int) % 10)] 5)) := by
        have := run_convert_bytes_back (P := Try.prog) (wr.alloc (.cells #[.int .u8 (48 + (m : Int) % 10)] 5)) 40 9 5 ⟨wr.heap.size, 0, none⟩ 1 [UInt8.ofNat (48 + m % 10)] Try.underlying40 Try.underlying5 Try.underlying9 (fun j hj => by
          have hj0 : j = 0 := by simp at hj; exact hj
          subst hj0
          show (wr.alloc _).cell? ((⟨wr.heap.size, 0, none⟩ : Addr).add 0) = some (.int .u8 ((UInt8.ofNat (48 + m % 10)).toNat : Int))
          rw [hval]
          exact cell_one_new _ _ _ 0 _ rfl)
        exact this
      have hrange : 0 ≤ 48 + (m : Int) % 10 ∧ 48 + (m : Int) % 10 ≤ 255 := by omega
      have hsz2 : ((⟨#[UInt8.ofNat (48 + m % 10)]⟩ : ByteArray) ++ t).size = 1 + t.size := by simp [ByteArray.size_append]; rfl
      obtain ⟨c, hc⟩ : ∃ c : ByteArray, (⟨#[UInt8.ofNat (48 + m % 10)]⟩ : ByteArray) = c := ⟨_, rfl⟩
      rw [hc] at hconv hsz2
      have HCC := Lib.hid hc
      have HVAL := Lib.hid hval
      have HSZ2 := Lib.hid hsz2
      have hcs : c.size = 1 := by rw [← hc]; rfl
      have hnot : ¬ 9223372036854775807 < c.size + t.size := by omega
      clear hc hval hsz2 hcs
      go_wp2
      go_roundw
      case rel =>
        refine ⟨m / 10, c ++ t, by go_num, rfl, Lib.hid ?_, by rw [HSZ2.out]; omega, Lib.hid (HB.out.alloc HB.out.size _)⟩
        rw [← HM.out, ← HCC.out]
        exact mkB_step hm t
      case measure => simp [intOf]; omega

end Go.Proofs.Ytmbffbjopehllaa

/- The contract of slices.DeleteFunc at 'isZero'. -/

namespace Go.Proofs.Ytmbffbjopehllaa
open Go.RowKit Go.Shelf

/-- A shorter slice of the same row. -/
theorem ownsRow_shorter {w : World} {base : Nat} {e : TypeId} {size g n k cap : Nat} {xs : List Value} (h : w.ownsRow base e size (.slice (some ⟨g, 0, none⟩) n cap) n xs) (hk : k ≤ n) :
    w.ownsRow base e size (.slice (some ⟨g, 0, none⟩) k cap) k (xs.take (k * size)) := by
  have hks : k * size ≤ n * size := Nat.mul_le_mul_right _ hk
  rcases h.2 with ⟨h', _⟩ | ⟨g', cap', cur, h', hb, hg, hnc, hcm, hcs, htake⟩
  · simp at h'
  · simp only [Value.slice.injEq, Option.some.injEq, Addr.mk.injEq, and_true, true_and] at h'
    obtain ⟨rfl, rfl⟩ := h'
    refine ⟨by rw [List.length_take, h.1]; omega, .inr ⟨g, cap, cur, rfl, hb, hg, by omega, hcm, hcs, ?_⟩⟩
    rw [← htake, List.take_take, Nat.min_eq_left hks]
/-- Stores behind the first m cells. -/
theorem ownsRow_behind {base : Nat} {e : TypeId} {size g n cap m : Nat} : ∀ (vs : List Value) (o : Nat) {w : World} {xs : List Value}, w.ownsRow base e size (.slice (some ⟨g, 0, none⟩) n cap) n xs → m ≤ o →
    ∃ ys, (w.setCells g o vs).ownsRow base e size (.slice (some ⟨g, 0, none⟩) n cap) n ys ∧ ys.take m = xs.take m
  | [], _, _, xs, h, _ => ⟨xs, h, rfl⟩
  | v :: r, o, w, xs, h, hm => by
    obtain ⟨ys, h1, h2⟩ := ownsRow_behind (m := m) r (o + 1) (h.stored o v).1 (by omega)
    refine ⟨ys, h1, h2.trans ?_⟩
    rw [List.take_set, List.set_eq_of_length_le (by rw [List.length_take]; omega)]
theorem below_cells {B g : Nat} (hg : B ≤ g) : ∀ (vs : List Value) (o : Nat) {w0 w : World}, Below B w0 w → Below B w0 (w.setCells g o vs)
  | [], _, _, _, h => h
  | v :: r, o, _, _, h => below_cells hg r (o + 1) (h.setCell (p := ⟨g, o, none⟩) hg v)

/-- 'clear' at a slice of terms. -/
theorem clear_terms {P : Program} (w : World) (t : TypeId) (ht : P.underlying t = some (.slice TI)) (hv : ∀ w, (zeroValue TI).run P w = .ok (.agg #[.int .i64 0, .string ByteArray.empty]) w) (b o n c : Nat) (hn : 0 < n)
    (hc : ∀ j, j < n * 2 → (w.cell? ⟨b, o + j, none⟩).isSome = true) (hf : ∀ j, w.frozen? ⟨b, j, none⟩ = false) :
    ∃ vs, ∀ ty, (Builtin.clear_ #[t] ty #[.slice (some ⟨b, o, none⟩) n c]).run P w = .ok (.tuple #[]) (w.setCells b o vs) := by
  refine ⟨(Builtin.zeroCells #[.int .i64 0, .string ByteArray.empty] n).toList, fun ty => ?_⟩
  have hlen : (Builtin.zeroCells #[.int .i64 0, .string ByteArray.empty] n).toList.length = n * 2 := by simp [Builtin.zeroCells]
  have hst := run_storeCells_cells (P := P) b o (Builtin.zeroCells #[.int .i64 0, .string ByteArray.empty] n).toList 0 w (by rw [hlen]; simpa using hc) (fun j _ => hf _) (by
    intro u hu
    simp only [Builtin.zeroCells, Array.toList_map, List.mem_map] at hu
    obtain ⟨i, _, rfl⟩ := hu
    have h2 : i % 2 < 2 := Nat.mod_lt _ (by omega)
    rcases (by omega : i % 2 = 0 ∨ i % 2 = 1) with h | h
    · simp [h, Value.oneCell']
    · simp [h, Value.oneCell'])
  simp only [Nat.add_zero] at hst
  obtain ⟨m, rfl⟩ : ∃ m, n = m + 1 := ⟨n - 1, by omega⟩
  simp [Builtin.clear_, run_underlying ht, hv, Value.cells, hst]

abbrev nzT (ts : List Tm) : List Tm := ts.filter fun t => !(t.c == 0)
theorem nzT_all {ts : List Tm} (h : ∀ j (h : j < ts.length), ts[j].c ≠ 0) : nzT ts = ts := by
  refine List.filter_eq_self.2 fun t ht => ?_
  obtain ⟨j, hj, rfl⟩ := List.getElem_of_mem ht
  simpa using h j hj
theorem nzT_first {ts : List Tm} {i : Nat} (hi : i < ts.length) (h0 : ts[i].c = 0) (h : ∀ j (h : j < i), ts[j].c ≠ 0) : nzT (ts.take (i + 1)) = ts.take i := by
  rw [List.take_add_one, List.getElem?_eq_getElem hi]
  unfold nzT
  rw [List.filter_append]
  have h1 : (ts.take i).filter (fun t => !(t.c == 0)) = ts.take i := nzT_all fun j hj => by
    rw [List.length_take] at hj
    rw [List.getElem_take]
    exact h j (by omega)
  rw [h1]
  simp [h0]
theorem nzT_step {ts : List Tm} {j : Nat} {t : Tm} (hj : j < ts.length) (ht : ts[j] = t) : nzT (ts.take (j + 1)) = nzT (ts.take j) ++ (if t.c = 0 then [] else [t]) := by
  rw [List.take_add_one, List.getElem?_eq_getElem hj]
  unfold nzT
  rw [List.filter_append, ht]
  by_cases h : t.c = 0 <;> simp [h]
theorem nzT_len (ts : List Tm) (j : Nat) : (nzT (ts.take j)).length ≤ j := Nat.le_trans (List.length_filter_le _ _) (by rw [List.length_take]; omega)

/-- The terms kept so far, and the rest as it was. -/
structure Kept (base : Nat) (w : World) (g cap n i j : Nat) (ts us : List Tm) : Prop where
  own : w.ownsRow base TI 2 (.slice (some ⟨g, 0, none⟩) n cap) n (termsV us)
  len : us.length = n
  head : us.take i = nzT (ts.take j)
  tail : us.drop j = ts.drop j
  hi : i < j
  hj : j ≤ n
theorem Kept.below {base : Nat} {w w' : World} {g cap n i j : Nat} {ts us : List Tm} (h : Kept base w g cap n i j ts us) (hb : Below w.heap.size w w') : Kept base w' g cap n i j ts us :=
  ⟨by have := h.own; rw [← h.len] at this ⊢; exact OwnT.below this hb, h.len, h.head, h.tail, h.hi, h.hj⟩
theorem Kept.at_ {base : Nat} {w : World} {g cap n i j : Nat} {ts us : List Tm} (h : Kept base w g cap n i j ts us) (hjn : j < n) (hz : j < ts.length) :
    w.cell? ⟨g, j * 2, none⟩ = some (.int .i64 ts[j].c) ∧ w.cell? ⟨g, j * 2 + 1, none⟩ = some (.string ts[j].s) := by
  have hta := termsAt_of_owns (ts := us) (g := g) (cap := cap) rfl (by rw [h.len]; exact h.own)
  have hju : j < us.length := by rw [h.len]; exact hjn
  obtain ⟨h1, h2⟩ := hta.2 j hju
  have e : us[j] = ts[j] := by
    have := congrArg (·[0]?) h.tail
    simp only [List.getElem?_drop, Nat.add_zero, List.getElem?_eq_getElem hju, List.getElem?_eq_getElem hz] at this
    exact Option.some.inj this
  rw [e] at h1 h2
  rw [add_off] at h1 h2
  exact ⟨h1, h2⟩
theorem Kept.keep {base : Nat} {w : World} {g cap n i j : Nat} {ts us : List Tm} {t : Tm} (h : Kept base w g cap n i j ts us) (hz : j < ts.length) (hjn : j < n) (ht : ts[j] = t) (hc : t.c ≠ 0) :
    Kept base ((w.setCell ⟨g, i * 2, none⟩ (.int .i64 t.c)).setCell ⟨g, i * 2 + 1, none⟩ (.string t.s)) g cap n (i + 1) (j + 1) ts (us.set i t) := by
  have hiu : i < us.length := by rw [h.len]; have := h.hi; omega
  refine ⟨?_, by rw [List.length_set]; exact h.len, ?_, ?_, by have := h.hi; omega, by omega⟩
  · rw [← set_terms us i t hiu]
    exact ((h.own.stored (i * 2) (.int .i64 t.c)).1.stored (i * 2 + 1) (.string t.s)).1
  · rw [nzT_step hz ht, if_neg hc, ← h.head, List.take_add_one, List.getElem?_set_self hiu, List.take_set, List.set_eq_of_length_le (by rw [List.length_take]; omega)]
    rfl
  · have := congrArg (List.drop 1) h.tail
    rw [List.drop_drop, List.drop_drop] at this
    rw [List.drop_set, if_pos (by have := h.hi; omega)]
    exact this
theorem Kept.skip {base : Nat} {w : World} {g cap n i j : Nat} {ts us : List Tm} {t : Tm} (h : Kept base w g cap n i j ts us) (hz : j < ts.length) (hjn : j < n) (ht : ts[j] = t) (hc : t.c = 0) : Kept base w g cap n i (j + 1) ts us := by
  refine ⟨h.own, h.len, ?_, ?_, by have := h.hi; omega, by omega⟩
  · rw [nzT_step hz ht, if_pos hc, List.append_nil]; exact h.head
  · have := congrArg (List.drop 1) h.tail
    rw [List.drop_drop, List.drop_drop] at this
    exact this

end Go.Proofs.Ytmbffbjopehllaa

/- The contracts of the program's 'toldSum' and 'SumOf'. -/

namespace Go.Proofs.Ytmbffbjopehllaa
open Go.RowKit Go.Shelf

/-- What a call of the program answers that tells a sum. -/
def ITold (w : World) (b : Bool) (us : List Tm) (e : Ending) (w' : World) : Prop := (∃ v', e = .returned (.tuple #[v', .bool b]) ∧ OwnT w.heap.size w' v' (cond b us [])) ∧ Below w.heap.size w w'
theorem ownNil (base : Nat) (w : World) : OwnT base w (.slice none 0 0) [] := ⟨rfl, .inl ⟨rfl, rfl⟩⟩
/-- Terms that may be gathered: not too many, not too great, their words of whatever length. -/
theorem filter_small {ts : List Tm} {p : Tm → Bool} (h : SmallT ts) : SmallT (ts.filter p) :=
  ⟨Nat.le_trans (List.length_filter_le _ _) h.1, fun t ht => h.2 t (List.mem_filter.1 ht).1⟩
theorem push_words {acc : List Tm} {t : Tm} {M : Nat} (h : ∀ u ∈ acc, u.s.size ≤ M) (ht : t.s.size ≤ M) : ∀ u ∈ pushT acc t, u.s.size ≤ M := by
  intro u hu
  rcases List.eq_nil_or_concat acc with rfl | ⟨b, l, rfl⟩
  · rw [push_nil] at hu; rw [List.mem_singleton.1 hu]; exact ht
  · rw [List.concat_eq_append] at *
    rw [push_last] at hu
    have hl := h l (by simp)
    split at hu
    · rcases List.mem_append.1 hu with hu | hu
      · exact h u (by simp [hu])
      · rw [List.mem_singleton.1 hu]; exact hl
    · rcases List.mem_append.1 hu with hu | hu
      · exact h u hu
      · rw [List.mem_singleton.1 hu]; exact ht
theorem merge_words {M : Nat} : ∀ (ts acc : List Tm), (∀ u ∈ acc, u.s.size ≤ M) → (∀ u ∈ ts, u.s.size ≤ M) → ∀ u ∈ ts.foldl pushT acc, u.s.size ≤ M
  | [], _, h, _ => h
  | t :: r, acc, h, ht => merge_words r (pushT acc t) (push_words h (ht t (by simp))) (fun u hu => ht u (by simp [hu]))
theorem merge_small {ts : List Tm} (hn : ts.length ≤ 100000) (hc : ∀ t ∈ ts, -1000000000000 ≤ t.c ∧ t.c ≤ 1000000000000) (hs : ∀ t ∈ ts, t.s.size ≤ maxLen) : SmallT (mergeT ts) := by
  have h1 := merge_len ts ts.length
  have h2 := merge_bnd (C := 1000000000000) (by omega) hc ts.length
  rw [merge_all] at h1 h2
  refine ⟨by unfold maxLen; omega, fun t ht => ⟨merge_words ts [] (fun u h => by cases h) hs t ht, ?_⟩⟩
  have := h2 t ht
  omega

end Go.Proofs.Ytmbffbjopehllaa

/- A map copied, cleared, made with one entry; the contracts of the program's 'oneSeries' and 'told' (of a series). -/

namespace Go.Proofs.Ytmbffbjopehllaa
open Go.RowKit Go.Shelf Go.Maps Go.MapKept

def cloneS_ren : Go.Shelf.Ren := ⟨fun | 5 => 79 | 7 => 98 | n => n, fun | 23 => 65 | 25 => 72 | 3 => 3 | 4 => 4 | 20 => 20 | n => n, fun n => n⟩
theorem cloneS : SlLaysW.n5 Try.prog cloneS_ren := {
  mixed := by kernel_rfl
  f5 := Exists.intro "maps.Clone[loop.example/foxcalculus/impl.series,loop.example/foxcalculus/impl.monomial,int]" ⟨of_decide_eq_true (by kernel_rfl), Try.func79.trans (congrArg some (by kernel_rfl))⟩
  f7 := Try.func98.trans (congrArg some (by kernel_rfl))
  t4 := Try.underlying4
  a4 := Try.isAgg4
  z4 := Try.sizeOf4
  v4 := Try.zeroValue4
  t20 := Try.underlying20
  a20 := Try.isAgg20
  z20 := Try.sizeOf20
  v20 := Try.zeroValue20
  t23 := Try.underlying65
  a23 := Try.isAgg65
  z23 := Try.sizeOf65
  v23 := Try.zeroValue65 }
theorem clone_any (b : Nat) (ts : List Tm) (w : World) (h : MapT w b ts) :
    Calls Try.prog 79 #[.map (some b)] w fun e w' => e = .returned (.map (some w.heap.size)) ∧ MapT w' w.heap.size ts ∧ Below w.heap.size w w' := by
  obtain ⟨es, h, hq⟩ := h
  refine (AnyW.maps_Clone_owns cloneS MonT _ b _ _ w h).mono ?_
  rintro e w' ⟨rfl, h1, _, h2⟩
  exact ⟨rfl, ⟨es, h1, hq⟩, h2⟩

section
variable {ops : Array Oper} {rest : List Oper} {o : Oper} {a : Act} {Q : Exit → Act → World → Prop}
theorem wpList_clear_map (w : World) (hg : o.guard = none) (m : Operand) (hop : o.op = Op.call { callee := Callee.builtin Builtin.clear, args := #[m], argTypes := #[SerT] }) (b : Nat) (ts : List Tm) (hm : a.eval m = .map (some b)) (h : MapT w b ts)
    (hK : ∀ w', MapT w' b [] → w.grownBy w' (some b) → wpList Try.prog ops Q rest (a.put o.dst (.tuple #[])) w') : wpList Try.prog ops Q (o :: rest) a w := by
  obtain ⟨es, ⟨es', clock, hb, F, _, _⟩, _⟩ := h
  have hrun : (Builtin.clear_ #[SerT] o.type #[.map (some b)]).run Try.prog w = .ok (.tuple #[]) { w with heap := w.heap.setIfInBounds b (.map #[] clock) } := by
    simp [Builtin.clear_, run_underlying undSer, Go.MapKept.run_getObj_map hb, Go.MapKept.run_setObj_map _ hb, Result.andThen]
  refine wpList_plain hg fun K' hK' => ?_
  unfold Oper.wp
  simp [execOp, hop, resolve, invoke, builtin, hm, hrun, Result.andThen]
  exact hK' _ _ (hK _ ⟨[], ⟨#[], clock, (heap_set hb).1, ⟨by simp, stamped_empty _, by simp⟩, Nat.le_refl _, rfl⟩, .refl _⟩ ⟨rfl, rfl, rfl, by simp, fun k _ hk => (heap_set hb).2 k fun e => hk (by rw [e])⟩)
theorem wpList_insert_map (w : World) (hg : o.guard = none) (m x v : Operand) (hop : o.op = Op.insert SerT m x v) (b : Nat) (ts : List Tm) (hm : a.eval m = .map (some b)) (h : MapT w b ts) (hn : ts.length < maxLen) (s : ByteArray) (c : Int)
    (hx : a.eval x = .string s) (hv : a.eval v = .int .i64 c) (hs : s.size ≤ maxLen) (hc : (Lit.int .i64 c).wf = true)
    (hK : ∀ w', MapT w' b (putT ts s c) → w.grownBy w' (some b) → wpList Try.prog ops Q rest (a.put o.dst undef) w') : wpList Try.prog ops Q (o :: rest) a w := by
  obtain ⟨D, hown, hput⟩ := h.store
  refine wpList_plain hg fun K' hK' => ?_
  obtain ⟨w', hrun, r1, r2⟩ := hown.update lawMon undSer hn (key_mk hs) (plainElem_int (H := Unit) Try.underlying3 hc)
  unfold Oper.wp
  simp [execOp, hop, hm, hx, hv, hrun, Result.andThen]
  exact hK' _ _ (hK w' (hput s c w' r1) r2)
end

theorem oneSeries_any (w : World) : Calls Try.prog 76 #[] w fun e w' => (∃ b, e = .returned (.map (some b)) ∧ w.heap.size ≤ b ∧ MapT w' b [⟨1, { data := #[] }⟩]) ∧ Below w.heap.size w w' := by
  have hmm := @run_makeMap Try.prog
  have h0 := mapT_made w
  go_enter Try.func76, Try.ntmps76
  go_wp2_with (first | (refine wpList_insert_map _ rfl _ _ _ rfl w.heap.size [] rfl h0 (by simp [maxLen]) _ _ rfl rfl (Nat.zero_le _) (by decide) ?_; intro w1 h1 hg1) | go_in)
  go_ret
  exact ⟨⟨_, rfl, Nat.le_refl _, h1⟩, ((Below.refl _ w).alloc (Nat.le_refl _) _).grown hg1 (by simp) (fun k e => by cases e; exact Nat.le_refl _)⟩

/-! ### told -/
def nzT2 (ts : List Tm) : List Tm := ts.filter fun t => !(t.c == 0)
theorem nzT2_snoc (ts : List Tm) (c : Int) (s : ByteArray) : nzT2 (ts ++ [⟨c, s⟩]) = if c = 0 then nzT2 ts else nzT2 ts ++ [⟨c, s⟩] := by
  unfold nzT2
  rw [List.filter_append, List.filter_cons, List.filter_nil]
  by_cases h : c = 0
  · simp [h]
  · simp [h]
theorem sorted_canon {ss ts : List Tm} (ha : Apart ts) (hp : ss.Perm (nzT2 ts)) (hs : ss.Pairwise (fun a b => lessW b.s a.s = false)) : ss = canonT ts := by
  have hsub : Apart (nzT2 ts) := List.Pairwise.filter _ ha
  have hss : Apart ss := hsub.perm hp.symm
  refine canonT_unique ⟨?_, fun t ht => ?_⟩ fun s => ?_
  · have h2 := List.pairwise_iff_getElem.1 hss
    have h1 := List.pairwise_iff_getElem.1 hs
    refine List.pairwise_iff_getElem.2 fun i j hi hj hij => ?_
    cases h : lessW ss[i].s ss[j].s
    · exact absurd (lessW_tri h (h1 i j hi hj hij)) (h2 i j hi hj hij)
    · rfl
  · have := (List.mem_filter.1 (hp.mem_iff.1 ht)).2
    simpa using this
  · rw [coefAt_perm s hp]; exact coefAt_filter s ts

end Go.Proofs.Ytmbffbjopehllaa

/- The contract of the program's 'told' (of a series). -/

namespace Go.Proofs.Ytmbffbjopehllaa
open Go.RowKit Go.Shelf Go.Maps Go.MapKept

set_option maxRecDepth 100000 in
set_option maxHeartbeats 2000000 in
theorem seriesTold_any (b : Nat) (ts : List Tm) (r : Bool) (w : World) (h : MapT w b ts) (hl : ts.length ≤ 1000) (hb : twS (canonT ts) = r) :
    Calls Try.prog 48 #[.map (some b)] w (ITold w r (canonT ts)) := by
  obtain ⟨i0, hi, hz0, hz1, hz2⟩ := info_parts infoTerm
  have hsm := h.small
  have hap := h.apart
  have hbl := h.lt
  have HSM := Lib.hid hsm
  have HAP := Lib.hid hap
  have HBB := Lib.hid hb
  have HL := Lib.hid hl
  clear hsm hap hb
  go_enter Try.func48, Try.ntmps48
  go_wp2_with (first | (at_range; refine wpList_range_map _ rfl _ rfl b ts rfl h ?_; intro w0 hrg0 hg0 hs0) | go_in)
  go_frame
  go_loopw [4] (fun v wr => ∃ (done : List Tm) (cnt : Nat), RangeT wr b w.heap.size ts done cnt ∧ Hid (OwnT w0.heap.size wr v (nzT2 done)) ∧ w0.heap.size ≤ wr.heap.size ∧ Below w.heap.size w wr)
    (fun _ wr => wr.rangeLeft b w.heap.size)
  case atStart => exact ⟨[], _, hrg0, Lib.hid ⟨rfl, .inl ⟨rfl, rfl⟩⟩, Nat.le_refl _, (Below.refl _ _).grown hg0 (Nat.le_refl _) (fun k e => by cases e)⟩
  case round =>
    obtain ⟨done, cnt, hrg, HO, hsz, hB⟩ := hrel
    have hlow0 := Lib.hid (ownsRow_low HO.out)
    have hcl := hrg.cnt
    have hdl := hrg.donelen
    have HRG := Lib.hid hrg
    go_wp2_with (first | (at_next; refine wpList_next_map _ rfl _ rfl b w.heap.size ts done cnt rfl HRG.out ?_ ?_) | go_in)
    · intro hperm
      have hsd : SmallT (nzT2 done) := ⟨by have := List.length_filter_le (fun t : Tm => !(t.c == 0)) done; unfold nzT2 maxLen; omega, fun t ht => HSM.out.2 t (hperm.mem_iff.1 (List.mem_filter.1 ht).1)⟩
      have hld : (nzT2 done).length ≤ 1000000 := by have := List.length_filter_le (fun t : Tm => !(t.c == 0)) done; unfold nzT2; omega
      obtain ⟨a1, c1, rfl, _⟩ := HO.out.isTerms hsd
      have HSO := Lib.hid (sortOwn_any w0.heap.size _ _ (nzT2 done) wr rfl hld hsz HO.out)
      have HPM := Lib.hid hperm
      have HSD := Lib.hid hsd
      clear hrg hperm hsd hld hlow0
      go_wp2_with fail
      refine HSO.out.mono ?_
      rintro e w2 ⟨rfl, ⟨ss, hp, hso, ho⟩, hb2⟩
      have hsc : ss = canonT ts := by
        rw [sorted_canon (HAP.out.perm HPM.out.symm) hp hso]
        exact canon_same fun k => coefAt_perm k HPM.out
      have hlen : ss.length = (nzT2 done).length := hp.length_eq
      have ho' : OwnT w0.heap.size w2 (.slice a1 (nzT2 done).length c1) ss := by unfold OwnT; rw [hlen]; exact ho
      have hss : SmallT ss := ⟨by rw [hlen]; exact HSD.out.1, fun t ht => HSD.out.2 t (hp.mem_iff.1 ht)⟩
      obtain ⟨a2, c2, e2, hI⟩ := ho'.isTerms hss
      injection e2 with ea en ec
      subst ea ec
      rw [en] at ho'
      have HI := Lib.hid hI
      have HO2 := Lib.hid ho'
      have hb2w : Below w.heap.size w w2 := hB.trans (hb2.mono (by have := hs0; omega))
      have HB2 := Lib.hid hb2w
      have hser : serB ss = r := by rw [hsc, serB_canon (canon_of ts)]; exact HBB.out
      have HSB := Lib.hid hser
      have HSC := Lib.hid hsc
      clear hp hso ho ho' hss hI hb2 hb2w hser hsc hlen
      go_wp2_with fail
      refine (iSeriesIn_is a1 c1 _ ss r w2 HI.out HSB.out).mono ?_
      rintro e w3 ⟨rfl, hb3⟩
      have HB3 := Lib.hid hb3
      clear hb3
      cases r
      · go_wp2
        go_ret2
        exact ⟨⟨_, rfl, ownNil _ _⟩, HB2.out.trans (HB3.out.mono HB2.out.size)⟩
      · go_wp2
        go_ret2
        refine ⟨⟨_, rfl, ?_⟩, HB2.out.trans (HB3.out.mono HB2.out.size)⟩
        rw [show cond true (canonT ts) [] = canonT ts from rfl, ← HSC.out]
        exact (HO2.out.below HB3.out).mono (by omega)
    · intro c s w1 cnt1 hmem hrg1 hlt hg1 hs1 hen
      have hB1 : Below w.heap.size w w1 := hB.grown hg1 hB.size (fun k e => by cases e; exact Nat.le_refl _)
      have ho1 : OwnT w0.heap.size w1 u4 (nzT2 done) := HO.out.kept hg1 (.inr fun e => by have := hlow0.out _ e; omega)
      have hsn := nzT2_snoc done c s
      have HO1 := Lib.hid ho1
      have HM := Lib.hid hmem
      have HR1 := Lib.hid hrg1
      have hl1 := hrg1.cnt
      clear hrg ho1 hmem hrg1 hg1
      by_cases hc0 : c = 0
      · rw [if_pos hc0] at hsn
        have hdc : (c == 0) = true := by simpa using hc0
        clear hc0
        have HSN := Lib.hid hsn
        clear hsn
        go_wp2
        go_roundw
        case rel => exact ⟨_, cnt1, HR1.out, Lib.hid (by rw [HSN.out]; exact HO1.out), by omega, hB1⟩
        case measure => rw [hl1, hcl]; exact hlt
      · rw [if_neg hc0] at hsn
        have hdc : (c == 0) = false := by simpa using hc0
        clear hc0
        have HSN := Lib.hid hsn
        clear hsn
        obtain ⟨N, hN⟩ : ∃ N, (nzT2 done).length = N := ⟨_, rfl⟩
        have hown : w1.ownsRow w0.heap.size TI 2 u4 N (termsV (nzT2 done)) := by rw [← hN]; exact HO1.out
        have HOW := Lib.hid hown
        have hNl : N ≤ 1000 := by have := List.length_filter_le (fun t : Tm => !(t.c == 0)) done; rw [← hN]; unfold nzT2; omega
        have HN := Lib.hid hN
        have hblt := hbl
        have hle01 : w0.heap.size ≤ w1.heap.size := by omega
        have HS1 := Lib.hid hs1
        clear hown hN HO1 hs1
        go_wp2_with (at_builtin; refine wpList_append_lies _ rfl _ _ _ rfl w0.heap.size TI i0 _ 2 24 Try.underlying25 hi hz0 hz1 hz2 rfl (by omega) u4 N (termsV (nzT2 done)) rfl (HOW.out.alloc _) ⟨w1.heap.size, 0, none⟩ 1 1 [.int .i64 c, .string s] rfl rfl (World.news_of_block (cs := #[.int .i64 c, .string s]) (t := TI) (fr := (0, 0)) (heap_alloc_new w1 _)) (by simp [Value.oneCell']) (by omega) (by unfold maxLen; omega) (by omega) (by simp; omega) (w1.heap.size + 1) (by simp) ?_; intro gg cap1 w7 hown7 hgrow7 hat hlt7)
        have hs1 := HS1.out
        have hlow := ownsRow_low HOW.out
        have hbA : Below w1.heap.size w1 (w1.alloc (.cells #[.int .i64 c, .string s] TI)) := (Below.refl _ w1).alloc (Nat.le_refl _) _
        have hR7 : RangeT w7 b w.heap.size ts (done ++ [⟨c, s⟩]) cnt1 := (HR1.out.kept (grown_of_below hbA) (by simp) (by simp)).kept hgrow7 (fun e => by have := hlow _ e.symm; omega) (fun e => by have := hlow _ e.symm; omega)
        have hB7 : Below w.heap.size w w7 := (hB1.trans (hbA.mono hB1.size)).grown hgrow7 (by simp; omega) (fun k e => by have := hlow _ e; omega)
        have hs7 : w0.heap.size ≤ w7.heap.size := by have := hgrow7.size; simp at this; omega
        have HO7 := Lib.hid hown7
        have HR7 := Lib.hid hR7
        have hl7 := hR7.cnt
        clear hown7 hgrow7 hat hlt7 hlow hbA hR7
        go_wp2
        go_roundw
        case rel =>
          refine ⟨_, cnt1, HR7.out, Lib.hid ?_, hs7, hB7⟩
          rw [HSN.out]
          unfold OwnT
          rw [List.length_append, HN.out, termsV_append]
          exact HO7.out
        case measure => rw [hl7, hcl]; exact hlt

end Go.Proofs.Ytmbffbjopehllaa

/- The contracts of the model's 'l4Shuffle' and 'SeriesShuffle'. -/

namespace Go.Proofs.Ytmbffbjopehllaa
open Go.RowKit Go.Shelf

/-- All ways to put two texts together behind a third one, at most k letters being left. -/
def shufT : Nat → ByteArray → ByteArray → ByteArray → List Tm
  | 0, p, a, b => [⟨1, p ++ a ++ b⟩]
  | k + 1, p, a, b => if a.size = 0 ∨ b.size = 0 then [⟨1, p ++ a ++ b⟩] else shufT k (p ++ a.extract 0 1) (a.extract 1 a.size) b ++ shufT k (p ++ b.extract 0 1) a (b.extract 1 b.size)
theorem shufT_end {k : Nat} {p a b : ByteArray} (h : a.size = 0 ∨ b.size = 0) : shufT k p a b = [⟨1, p ++ a ++ b⟩] := by
  cases k with
  | zero => rfl
  | succ k => rw [shufT, if_pos h]
theorem shufT_go {k : Nat} {p a b : ByteArray} (ha : ¬ a.size = 0) (hb : ¬ b.size = 0) : shufT (k + 1) p a b = shufT k (p ++ a.extract 0 1) (a.extract 1 a.size) b ++ shufT k (p ++ b.extract 0 1) a (b.extract 1 b.size) := by
  rw [shufT, if_neg (by omega)]
theorem shufT_len : ∀ (k : Nat) (p a b : ByteArray), (shufT k p a b).length ≤ 2 ^ k
  | 0, _, _, _ => by simp [shufT]
  | k + 1, p, a, b => by
    rw [shufT]
    split
    · have : 0 < 2 ^ (k + 1) := Nat.pow_pos (by omega)
      simp; omega
    · have h1 := shufT_len k (p ++ a.extract 0 1) (a.extract 1 a.size) b
      have h2 := shufT_len k (p ++ b.extract 0 1) a (b.extract 1 b.size)
      rw [List.length_append, Nat.pow_succ]; omega
theorem empty_true {s : ByteArray} (h : s.size = 0) : s.toList.isEmpty = true := by
  have h0 : s.data.toList = [] := List.eq_nil_of_length_eq_zero (by simpa using h)
  rw [ByteArray.toList_eq, h0]; rfl
theorem empty_false {s : ByteArray} (h : ¬ s.size = 0) : s.toList.isEmpty = false := by
  rw [ByteArray.toList_eq]
  cases h2 : s.data.toList with
  | nil => exfalso; apply h; rw [← show s.data.toList.length = s.size by simp, h2]; rfl
  | cons _ _ => rfl

set_option maxRecDepth 100000 in
set_option maxHeartbeats 4000000 in
theorem l4Shuffle_end (k : Nat) (p a b : ByteArray) (base : Nat) (v : Value) (acc : List Tm) (N : Nat) (B : Int) (w : World) (he : a.size = 0 ∨ b.size = 0) (hs : p.size + a.size + b.size ≤ 4) (hA : Acc base w v acc N B) (hB0 : 0 ≤ B)
    (hN : N + (shufT k p a b).length ≤ 1000) (hB : B + (shufT k p a b).length ≤ 1000) (hbase : base ≤ w.heap.size) :
    Calls Try.prog 53 #[.string p, .string a, .string b, v] w fun e w' => (∃ v', e = .returned v' ∧ Acc base w' v' ((shufT k p a b).foldl addT acc) (N + (shufT k p a b).length) (B + (shufT k p a b).length)) ∧ Below w.heap.size w w' := by
  rw [shufT_end he] at hN hB ⊢
  simp only [List.length_singleton] at hN hB ⊢
  have hsz : (p ++ a ++ b).size ≤ 60 := by rw [append_size, append_size]; omega
  have hn1 : ¬ 9223372036854775807 < p.size + a.size := by omega
  have hn2 : ¬ 9223372036854775807 < (p ++ a).size + b.size := by rw [append_size]; omega
  have HST : Hid (Calls Try.prog 72 #[v, .int .i64 1, .string (p ++ a ++ b)] w fun e w' => (∃ v', e = .returned v' ∧ Acc base w' v' (addT acc ⟨1, p ++ a ++ b⟩) (N + 1) (B + 1)) ∧ Below w.heap.size w w') :=
    Lib.hid (step_any base v acc N B 1 1 (p ++ a ++ b) w hA (by omega) hB0 (by omega) (by omega) (by omega) hsz hbase)
  clear hA hs hsz
  by_cases ha : a.size = 0
  · have hqa := empty_true ha
    clear ha he
    go_enter Try.func53, Try.ntmps53
    go_wp2_with fail
    refine HST.out.mono ?_
    rintro e w1 ⟨⟨v', rfl, ho⟩, hb⟩
    have HO := Lib.hid ho
    clear ho
    go_wp2
    go_ret
    exact ⟨⟨_, rfl, HO.out⟩, hb⟩
  · have hqa := empty_false ha
    have hqb := empty_true (he.resolve_left ha)
    clear ha he
    go_enter Try.func53, Try.ntmps53
    go_wp2_with fail
    refine HST.out.mono ?_
    rintro e w1 ⟨⟨v', rfl, ho⟩, hb⟩
    have HO := Lib.hid ho
    clear ho
    go_wp2
    go_ret
    exact ⟨⟨_, rfl, HO.out⟩, hb⟩

set_option maxRecDepth 100000 in
set_option maxHeartbeats 4000000 in
theorem l4Shuffle_any (k : Nat) : ∀ (p a b : ByteArray) (base : Nat) (v : Value) (acc : List Tm) (N : Nat) (B : Int) (w : World), a.size + b.size ≤ k → p.size + a.size + b.size ≤ 4 → Acc base w v acc N B → 0 ≤ B →
    N + (shufT k p a b).length ≤ 1000 → B + (shufT k p a b).length ≤ 1000 → base ≤ w.heap.size →
    Calls Try.prog 53 #[.string p, .string a, .string b, v] w fun e w' => (∃ v', e = .returned v' ∧ Acc base w' v' ((shufT k p a b).foldl addT acc) (N + (shufT k p a b).length) (B + (shufT k p a b).length)) ∧ Below w.heap.size w w' := by
  induction k with
  | zero =>
    intro p a b base v acc N B w hk hs hA hB0 hN hB hbase
    exact l4Shuffle_end 0 p a b base v acc N B w (by omega) hs hA hB0 hN hB hbase
  | succ k ih =>
    intro p a b base v acc N B w hk hs hA hB0 hN hB hbase
    by_cases he : a.size = 0 ∨ b.size = 0
    · exact l4Shuffle_end (k + 1) p a b base v acc N B w he hs hA hB0 hN hB hbase
    · have ha : ¬ a.size = 0 := fun h => he (.inl h)
      have hb : ¬ b.size = 0 := fun h => he (.inr h)
      have hqa := empty_false ha
      have hqb := empty_false hb
      have hmx : Try.prog.follows .mixedOrders = true := by kernel_rfl
      have sa0 : (a.extract 0 1).size = 1 := by rw [ByteArray.size_extract]; omega
      have sa1 : (a.extract 1 a.size).size = a.size - 1 := by rw [ByteArray.size_extract]; omega
      have sb0 : (b.extract 0 1).size = 1 := by rw [ByteArray.size_extract]; omega
      have sb1 : (b.extract 1 b.size).size = b.size - 1 := by rw [ByteArray.size_extract]; omega
      have hsplit := shufT_go (k := k) (p := p) ha hb
      obtain ⟨a0, ha0⟩ : ∃ x, a.extract 0 1 = x := ⟨_, rfl⟩
      obtain ⟨a1, ha1⟩ : ∃ x, a.extract 1 a.size = x := ⟨_, rfl⟩
      obtain ⟨b0, hb0⟩ : ∃ x, b.extract 0 1 = x := ⟨_, rfl⟩
      obtain ⟨b1, hb1⟩ : ∃ x, b.extract 1 b.size = x := ⟨_, rfl⟩
      rw [ha0, ha1, hb0, hb1] at hsplit
      rw [ha0] at sa0
      rw [ha1] at sa1
      rw [hb0] at sb0
      rw [hb1] at sb1
      obtain ⟨t1, ht1⟩ : ∃ t, shufT k (p ++ a0) a1 b = t := ⟨_, rfl⟩
      obtain ⟨t2, ht2⟩ : ∃ t, shufT k (p ++ b0) a b1 = t := ⟨_, rfl⟩
      rw [ht1, ht2] at hsplit
      rw [hsplit, List.length_append] at hN hB ⊢
      have hB' : B + t1.length + t2.length ≤ 1000 := by omega
      have H1 : Hid (∀ W : World, Below w.heap.size w W → Calls Try.prog 53 #[.string (p ++ a0), .string a1, .string b, v] W fun e w' => (∃ v', e = .returned v' ∧ Acc base w' v' (t1.foldl addT acc) (N + t1.length) (B + t1.length)) ∧ Below W.heap.size W w') := Lib.hid fun W hW => by
        have h := ih (p ++ a0) a1 b base v acc N B W (by omega) (by rw [append_size]; omega) (hA.below hW) hB0 (by rw [ht1]; omega) (by rw [ht1]; omega) (Nat.le_trans hbase hW.size)
        rw [ht1] at h
        exact h
      have H2 : Hid (∀ (v' : Value) (W : World), Acc base W v' (t1.foldl addT acc) (N + t1.length) (B + t1.length) → base ≤ W.heap.size → Calls Try.prog 53 #[.string (p ++ b0), .string a, .string b1, v'] W fun e w' => (∃ v'', e = .returned v'' ∧ Acc base w' v'' (t2.foldl addT (t1.foldl addT acc)) (N + t1.length + t2.length) (B + t1.length + t2.length)) ∧ Below W.heap.size W w') := Lib.hid fun v' W hA2 hbs => by
        have h := ih (p ++ b0) a b1 base v' (t1.foldl addT acc) (N + t1.length) (B + t1.length) W (by omega) (by rw [append_size]; omega) hA2 (by omega) (by rw [ht2]; omega) (by rw [ht2]; omega) hbs
        rw [ht2] at h
        exact h
      have hn1 : ¬ 9223372036854775807 < p.size + a0.size := by omega
      have hn2 : ¬ 9223372036854775807 < p.size + b0.size := by omega
      have ha1' : 1 ≤ a.size := by omega
      have hb1' : 1 ≤ b.size := by omega
      have hai : (1 : Int) ≤ a.size := by omega
      have hbi : (1 : Int) ≤ b.size := by omega
      clear hsplit ht1 ht2 hN hB ih hA he sa0 sa1 sb0 sb1 hk
      go_enter Try.func53, Try.ntmps53
      go_wp2_with fail
      refine wp_region_below_tail 8 hmx (by kernel_rfl) ?_
      simp only [List.take_succ_cons, List.take_zero, List.drop_succ_cons, List.drop_zero]
      repeat (((with_reducible refine wpQuiet_step (fun K hK => ?_)); go_simp; first | ((with_reducible refine hK _ ?_); clear hK K) | (refine (if_neg (by decide)).mpr ?_; (with_reducible refine hK _ ?_); clear hK K)))
      with_reducible refine wpQuiet_nil ?_
      rintro W ⟨⟨W, hW⟩, rfl⟩
      change wpList _ _ _ _ _ W
      go_wp2_with fail
      refine (H1.out W hW).mono ?_
      rintro e w2 ⟨⟨v2, rfl, ho2⟩, hb2⟩
      have HO2 := Lib.hid ho2
      have HB2 := Lib.hid (hW.trans (hb2.mono hW.size))
      clear ho2 hb2
      go_wp2_with fail
      refine wp_region_below_tail 8 hmx (by kernel_rfl) ?_
      simp only [List.take_succ_cons, List.take_zero, List.drop_succ_cons, List.drop_zero]
      repeat (((with_reducible refine wpQuiet_step (fun K hK => ?_)); go_simp; first | ((with_reducible refine hK _ ?_); clear hK K) | (refine (if_neg (by decide)).mpr ?_; (with_reducible refine hK _ ?_); clear hK K)))
      with_reducible refine wpQuiet_nil ?_
      rintro W2 ⟨⟨W2, hW2⟩, rfl⟩
      change wpList _ _ _ _ _ W2
      have hB3 : Below w.heap.size w W2 := HB2.out.trans (hW2.mono HB2.out.size)
      go_wp2_with fail
      refine (H2.out v2 W2 (HO2.out.below hW2) (Nat.le_trans hbase hB3.size)).mono ?_
      rintro e w4 ⟨⟨v4, rfl, ho4⟩, hb4⟩
      have HO4 := Lib.hid ho4
      clear ho4
      go_wp2
      go_ret
      refine ⟨⟨_, rfl, ?_⟩, hB3.trans (hb4.mono hB3.size)⟩
      rw [List.foldl_append]
      exact HO4.out.more (by omega) (by omega)

/-- What SeriesShuffle answers. -/
def shufB (a b : ByteArray) : Bool := monoB a && (monoB b && decide (a.size + b.size ≤ 4))
theorem shuf_mono : ∀ (k : Nat) (p a b : ByteArray), monoB p = true → monoB a = true → monoB b = true → p.size + a.size + b.size ≤ 4 → ∀ t ∈ shufT k p a b, monoB t.s = true ∧ t.c = 1 := by
  have one : ∀ (p a b : ByteArray), monoB p = true → monoB a = true → monoB b = true → p.size + a.size + b.size ≤ 4 → ∀ t ∈ [(⟨1, p ++ a ++ b⟩ : Tm)], monoB t.s = true ∧ t.c = 1 := fun p a b hp ha hb hs t ht => by
    rw [List.mem_singleton.1 ht]
    exact ⟨mono_append (mono_append hp ha (by rw [append_size]; omega)) hb (by rw [append_size, append_size]; omega), rfl⟩
  have part : ∀ (s : ByteArray) (i j : Nat), monoB s = true → monoB (s.extract i j) = true := fun s i j h => by
    have h4 := mono_size h
    unfold monoB at *
    simp only [Bool.and_eq_true, decide_eq_true_eq] at *
    refine ⟨List.all_eq_true.2 fun c hc => List.all_eq_true.1 h.1 c ?_, by rw [ByteArray.size_extract]; omega⟩
    rw [Lib.extract_data] at hc
    exact List.mem_of_mem_drop (List.mem_of_mem_take hc)
  intro k
  induction k with
  | zero => intro p a b hp ha hb hs t ht; exact one p a b hp ha hb hs t ht
  | succ k ih =>
    intro p a b hp ha hb hs t ht
    rw [shufT] at ht
    split at ht
    · exact one p a b hp ha hb hs t ht
    · rename_i hne
      have sa0 : (a.extract 0 1).size = 1 := by rw [ByteArray.size_extract]; omega
      have sa1 : (a.extract 1 a.size).size = a.size - 1 := by rw [ByteArray.size_extract]; omega
      have sb0 : (b.extract 0 1).size = 1 := by rw [ByteArray.size_extract]; omega
      have sb1 : (b.extract 1 b.size).size = b.size - 1 := by rw [ByteArray.size_extract]; omega
      rcases List.mem_append.1 ht with ht | ht
      · exact ih _ _ _ (mono_append hp (part a 0 1 ha) (by rw [append_size]; omega)) (part a 1 a.size ha) hb (by rw [append_size]; omega) t ht
      · exact ih _ _ _ (mono_append hp (part b 0 1 hb) (by rw [append_size]; omega)) ha (part b 1 b.size hb) (by rw [append_size]; omega) t ht
theorem shuf_tw {a b : ByteArray} (h : shufB a b = true) : twS (canonT (shufT 4 { data := #[] } a b)) = true := by
  unfold shufB at h
  simp only [Bool.and_eq_true, decide_eq_true_eq] at h
  obtain ⟨ha, hb, hs⟩ := h
  have hmem := shuf_mono 4 { data := #[] } a b (by decide) ha hb (by show 0 + a.size + b.size ≤ 4; omega)
  have hl := shufT_len 4 { data := #[] } a b
  have hl2 := fold_len (shufT 4 { data := #[] } a b) []
  have hbd := fold_bound (C := 1) (by omega) (shufT 4 { data := #[] } a b) [] 0 (by omega) (fun t ht => by rw [(hmem t ht).2]; omega) (fun u hu => by cases hu)
  simp only [List.length_nil] at hl2
  unfold twS inR
  rw [decide_eq_true (by show (canonT _).length ≤ 400; unfold canonT; omega), Bool.true_and]
  refine List.all_eq_true.2 fun t ht => ?_
  obtain ⟨v, hv, e⟩ := canon_words ht
  have h1 := hbd t ht
  rw [← e, (hmem v hv).1, decide_eq_true (by omega), decide_eq_true (by omega)]; rfl
theorem shufB_tw {a b : ByteArray} {r : Bool} (h : shufB a b = r) : r = true → twS (canonT (shufT 4 { data := #[] } a b)) = true := fun hr => shuf_tw (by rw [h, hr])

set_option maxRecDepth 100000 in
set_option maxHeartbeats 4000000 in
theorem sSeriesShuffle_any (a b : ByteArray) (r : Bool) (w : World) (ha : a.size ≤ 1048576) (hb : b.size ≤ 1048576) (hr : shufB a b = r) :
    Calls Try.prog 26 #[.string a, .string b] w (STold w r (canonT (shufT 4 { data := #[] } a b))) := by
  have hma : a.size ≤ maxLen := by unfold maxLen; omega
  have hmb : b.size ≤ maxLen := by unfold maxLen; omega
  unfold shufB at hr
  cases h1 : monoB a with
  | false =>
    rw [h1] at hr
    obtain rfl : false = r := hr
    have H1 := Lib.hid h1
    clear h1
    go_enter Try.func26, Try.ntmps26
    go_wp2_with fail
    refine (sMono_is a false _ hma H1.out).mono ?_
    rintro e w1 ⟨rfl, hb1⟩
    have HB1 := Lib.hid hb1
    clear hb1
    go_wp2
    go_ret2
    exact ⟨⟨_, rfl, (ownEmpty w1).mono HB1.out.size⟩, HB1.out.alloc HB1.out.size _⟩
  | true =>
    cases h2 : monoB b with
    | false =>
      rw [h1, h2] at hr
      obtain rfl : false = r := hr
      have H1 := Lib.hid h1
      have H2 := Lib.hid h2
      clear h1 h2
      go_enter Try.func26, Try.ntmps26
      go_wp2_with fail
      refine (sMono_is a true _ hma H1.out).mono ?_
      rintro e w1 ⟨rfl, hb1⟩
      have HB1 := Lib.hid hb1
      clear hb1
      go_wp2_with fail
      refine (sMono_is b false _ hmb H2.out).mono ?_
      rintro e w2 ⟨rfl, hb2⟩
      have HB2 := Lib.hid (HB1.out.trans (hb2.mono HB1.out.size))
      clear hb2
      go_wp2
      go_ret2
      exact ⟨⟨_, rfl, (ownEmpty w2).mono HB2.out.size⟩, HB2.out.alloc HB2.out.size _⟩
    | true =>
      rw [h1, h2, Bool.true_and, Bool.true_and] at hr
      have H1 := Lib.hid h1
      have H2 := Lib.hid h2
      have s1 := mono_size h1
      have s2 := mono_size h2
      by_cases hs : a.size + b.size ≤ 4
      · rw [decide_eq_true hs] at hr
        obtain rfl : true = r := hr
        have hl := shufT_len 4 { data := #[] } a b
        have HSh : Hid (∀ (base : Nat) (v : Value) (W : World), Acc base W v [] 0 0 → base ≤ W.heap.size → Calls Try.prog 53 #[.string { data := #[] }, .string a, .string b, v] W fun e w' => (∃ v', e = .returned v' ∧ Acc base w' v' (canonT (shufT 4 { data := #[] } a b)) 16 16) ∧ Below W.heap.size W w') := Lib.hid fun base v W hA hbs => by
          refine (l4Shuffle_any 4 { data := #[] } a b base v [] 0 0 W hs (by show 0 + a.size + b.size ≤ 4; omega) hA (by omega) (by omega) (by omega) hbs).mono ?_
          rintro e w' ⟨⟨v', he, ho⟩, hb'⟩
          exact ⟨⟨v', he, ho.more (by omega) (by omega)⟩, hb'⟩
        have hlt4 : ¬ 4 < (a.size : Int) + b.size := by omega
        have hdl : decide (4 < (a.size : Int) + b.size) = false := decide_eq_false hlt4
        clear h1 h2 hl
        go_enter Try.func26, Try.ntmps26
        go_wp2_with fail
        refine (sMono_is a true _ hma H1.out).mono ?_
        rintro e w1 ⟨rfl, hb1⟩
        have HB1 := Lib.hid hb1
        clear hb1
        go_wp2_with fail
        refine (sMono_is b true _ hmb H2.out).mono ?_
        rintro e w2 ⟨rfl, hb2⟩
        have HB2 := Lib.hid (HB1.out.trans (hb2.mono HB1.out.size))
        have hs2 := HB2.out.size
        clear hb2
        go_wp2_with fail
        refine (HSh.out w2.heap.size _ _ (acc_zero w2) (by simp)).mono ?_
        rintro e w3 ⟨⟨v3, rfl, ho3⟩, hb3⟩
        have HO3 := Lib.hid ho3.own
        have HB3 := Lib.hid ((HB2.out.alloc hs2 _).trans (hb3.mono (by simp; omega)))
        clear ho3 hb3
        go_wp2
        go_ret2
        exact ⟨⟨_, rfl, HO3.out.mono hs2⟩, HB3.out⟩
      · rw [decide_eq_false hs] at hr
        obtain rfl : false = r := hr
        have hlt4 : 4 < (a.size : Int) + b.size := by omega
        have hdl : decide (4 < (a.size : Int) + b.size) = true := decide_eq_true hlt4
        clear h1 h2 hs
        go_enter Try.func26, Try.ntmps26
        go_wp2_with fail
        refine (sMono_is a true _ hma H1.out).mono ?_
        rintro e w1 ⟨rfl, hb1⟩
        have HB1 := Lib.hid hb1
        clear hb1
        go_wp2_with fail
        refine (sMono_is b true _ hmb H2.out).mono ?_
        rintro e w2 ⟨rfl, hb2⟩
        have HB2 := Lib.hid (HB1.out.trans (hb2.mono HB1.out.size))
        clear hb2
        go_wp2
        go_ret2
        exact ⟨⟨_, rfl, (ownEmpty w2).mono HB2.out.size⟩, HB2.out.alloc HB2.out.size _⟩

end Go.Proofs.Ytmbffbjopehllaa

/- The contracts of the program's 'shuffle' and 'SeriesShuffle'. -/

namespace Go.Proofs.Ytmbffbjopehllaa
open Go.RowKit Go.Shelf

theorem mono_part {s : ByteArray} (i j : Nat) (h : monoB s = true) : monoB (s.extract i j) = true := by
  have h4 := mono_size h
  unfold monoB at *
  simp only [Bool.and_eq_true, decide_eq_true_eq] at *
  refine ⟨List.all_eq_true.2 fun c hc => List.all_eq_true.1 h.1 c ?_, by rw [ByteArray.size_extract]; omega⟩
  rw [Lib.extract_data] at hc
  exact List.mem_of_mem_drop (List.mem_of_mem_take hc)
theorem bnd_append {M : Int} {a b : List Tm} (h1 : BndT M a) (h2 : BndT M b) : BndT M (a ++ b) := fun t ht => (List.mem_append.1 ht).elim (h1 t) (h2 t)

/-- What a shuffle has done to the map: its ways added. -/
def Shuf (mb : Nat) (L : List Tm) (w : World) (e : Ending) (w' : World) : Prop :=
  e = .returned (.tuple #[]) ∧ (∃ us, MapT w' mb us ∧ MonoT us ∧ ∀ q, coefAt q us = coefAt q L) ∧ w.grownBy w' (some mb)

set_option maxRecDepth 100000 in
set_option maxHeartbeats 4000000 in
theorem shuffle_end (k : Nat) (p a b : ByteArray) (mb : Nat) (ts L : List Tm) (w : World) (he : a.size = 0 ∨ b.size = 0) (hs : p.size + a.size + b.size ≤ 4) (hmo : monoB (p ++ a ++ b) = true)
    (hT : MapT w mb ts) (mT : MonoT ts) (hL : ∀ q, coefAt q ts = coefAt q L) (hB : BndT 1 L) (hlen : L.length ≤ 1000) :
    Calls Try.prog 54 #[.map (some mb), .string p, .string a, .string b] w (Shuf mb (L ++ shufT k p a b) w) := by
  rw [shufT_end he]
  have hn1 : ¬ 9223372036854775807 < p.size + a.size := by omega
  have hn2 : ¬ 9223372036854775807 < (p ++ a).size + b.size := by rw [append_size]; omega
  have hqm : (p ++ a ++ b).size ≤ maxLen := by rw [append_size, append_size]; unfold maxLen; omega
  obtain ⟨z, hz⟩ : ∃ z, coefAt (p ++ a ++ b) ts = z := ⟨_, rfl⟩
  have hzb : -1000 ≤ z ∧ z ≤ 1000 := by
    have := coef_bnd (by omega) (p ++ a ++ b) hB
    rw [← hL, hz] at this
    omega
  have hadd : IntKind.i64.wrap (z + 1) = z + 1 := IntWalk.i64_in _ (by omega)
  have hwf : (Lit.int .i64 (z + 1)).wf = true := by
    simp only [Lit.wf, Bool.and_eq_true, decide_eq_true_eq]
    have e1 : IntKind.i64.min = -9223372036854775808 := by decide
    have e2 : IntKind.i64.max = 9223372036854775807 := by decide
    omega
  have hul : ts.length < maxLen := by have := apart_len341 hT.apart mT; unfold maxLen; omega
  have HQM := Lib.hid hqm
  have HZ := Lib.hid hz
  have HWF := Lib.hid hwf
  have HUL := Lib.hid hul
  have HT := Lib.hid hT
  have HEnd : Hid (∀ w' : World, MapT w' mb (putT ts (p ++ a ++ b) (z + 1)) → w.grownBy w' (some mb) → (∃ us, MapT w' mb us ∧ MonoT us ∧ ∀ q, coefAt q us = coefAt q (L ++ [⟨1, p ++ a ++ b⟩])) ∧ w.grownBy w' (some mb)) :=
    Lib.hid fun w' h hg => ⟨⟨_, h, mono_put mT hmo, fun q => by rw [← put_add _ 1 hL q, hz]⟩, hg⟩
  clear hqm hz hzb hwf hul hT mT hL hB hlen hmo
  by_cases ha : a.size = 0
  · have hqa := empty_true ha
    clear ha he hs
    go_enter Try.func54, Try.ntmps54
    go_wp2_with (first | (refine wpList_lookup_map _ rfl _ _ rfl mb ts rfl HT.out (p ++ a ++ b) rfl HQM.out ?_; rw [HZ.out]) | (refine wpList_update_map _ rfl _ _ _ rfl mb ts rfl HT.out HUL.out (p ++ a ++ b) (z + 1) rfl rfl HQM.out HWF.out ?_; intro w5 h5 hg5; simp only [Act.put]) | go_in)
    refine bodyPost_ret (by simp [results, Try.f54, go_sem]; rfl) rfl ?_
    exact ⟨rfl, HEnd.out _ h5 hg5⟩
  · have hqa := empty_false ha
    have hqb := empty_true (he.resolve_left ha)
    clear ha he hs
    go_enter Try.func54, Try.ntmps54
    go_wp2_with (first | (refine wpList_lookup_map _ rfl _ _ rfl mb ts rfl HT.out (p ++ a ++ b) rfl HQM.out ?_; rw [HZ.out]) | (refine wpList_update_map _ rfl _ _ _ rfl mb ts rfl HT.out HUL.out (p ++ a ++ b) (z + 1) rfl rfl HQM.out HWF.out ?_; intro w5 h5 hg5; simp only [Act.put]) | go_in)
    refine bodyPost_ret (by simp [results, Try.f54, go_sem]; rfl) rfl ?_
    exact ⟨rfl, HEnd.out _ h5 hg5⟩

set_option maxRecDepth 100000 in
set_option maxHeartbeats 4000000 in
theorem shuffle_any (k : Nat) : ∀ (p a b : ByteArray) (mb : Nat) (ts L : List Tm) (w : World), a.size + b.size ≤ k → p.size + a.size + b.size ≤ 4 → monoB p = true → monoB a = true → monoB b = true →
    MapT w mb ts → MonoT ts → (∀ q, coefAt q ts = coefAt q L) → BndT 1 L → L.length + (shufT k p a b).length ≤ 1000 →
    Calls Try.prog 54 #[.map (some mb), .string p, .string a, .string b] w (Shuf mb (L ++ shufT k p a b) w) := by
  induction k with
  | zero =>
    intro p a b mb ts L w hk hs mp ma mb' hT mT hL hB hlen
    exact shuffle_end 0 p a b mb ts L w (by omega) hs (mono_append (mono_append mp ma (by rw [append_size]; omega)) mb' (by rw [append_size, append_size]; omega)) hT mT hL hB (by omega)
  | succ k ih =>
    intro p a b mb ts L w hk hs mp ma mb' hT mT hL hB hlen
    by_cases he : a.size = 0 ∨ b.size = 0
    · exact shuffle_end (k + 1) p a b mb ts L w he hs (mono_append (mono_append mp ma (by rw [append_size]; omega)) mb' (by rw [append_size, append_size]; omega)) hT mT hL hB (by omega)
    · have ha : ¬ a.size = 0 := fun h => he (.inl h)
      have hb : ¬ b.size = 0 := fun h => he (.inr h)
      have hqa := empty_false ha
      have hqb := empty_false hb
      have hmx : Try.prog.follows .mixedOrders = true := by kernel_rfl
      have sa0 : (a.extract 0 1).size = 1 := by rw [ByteArray.size_extract]; omega
      have sa1 : (a.extract 1 a.size).size = a.size - 1 := by rw [ByteArray.size_extract]; omega
      have sb0 : (b.extract 0 1).size = 1 := by rw [ByteArray.size_extract]; omega
      have sb1 : (b.extract 1 b.size).size = b.size - 1 := by rw [ByteArray.size_extract]; omega
      have ma0 := mono_part 0 1 ma
      have ma1 := mono_part 1 a.size ma
      have mb0 := mono_part 0 1 mb'
      have mb1 := mono_part 1 b.size mb'
      have hsplit := shufT_go (k := k) (p := p) ha hb
      obtain ⟨a0, ha0⟩ : ∃ x, a.extract 0 1 = x := ⟨_, rfl⟩
      obtain ⟨a1, ha1⟩ : ∃ x, a.extract 1 a.size = x := ⟨_, rfl⟩
      obtain ⟨b0, hb0⟩ : ∃ x, b.extract 0 1 = x := ⟨_, rfl⟩
      obtain ⟨b1, hb1⟩ : ∃ x, b.extract 1 b.size = x := ⟨_, rfl⟩
      rw [ha0, ha1, hb0, hb1] at hsplit
      rw [ha0] at sa0 ma0
      rw [ha1] at sa1 ma1
      rw [hb0] at sb0 mb0
      rw [hb1] at sb1 mb1
      have mpa : monoB (p ++ a0) = true := mono_append mp ma0 (by rw [append_size]; omega)
      have mpb : monoB (p ++ b0) = true := mono_append mp mb0 (by rw [append_size]; omega)
      obtain ⟨t1, ht1⟩ : ∃ t, shufT k (p ++ a0) a1 b = t := ⟨_, rfl⟩
      obtain ⟨t2, ht2⟩ : ∃ t, shufT k (p ++ b0) a b1 = t := ⟨_, rfl⟩
      have bt1 : BndT 1 t1 := fun t ht => by
        rw [← ht1] at ht
        rw [(shuf_mono k _ _ _ mpa ma1 mb' (by rw [append_size]; omega) t ht).2]; omega
      rw [ht1, ht2] at hsplit
      rw [hsplit, List.length_append] at hlen
      rw [hsplit, ← List.append_assoc]
      have H1 : Hid (∀ W : World, Below w.heap.size w W → Calls Try.prog 54 #[.map (some mb), .string (p ++ a0), .string a1, .string b] W (Shuf mb (L ++ t1) W)) := Lib.hid fun W hW => by
        have h := ih (p ++ a0) a1 b mb ts L W (by omega) (by rw [append_size]; omega) mpa ma1 mb' (hT.below hW) mT hL hB (by rw [ht1]; omega)
        rw [ht1] at h
        exact h
      have H2 : Hid (∀ (us : List Tm) (W : World), MapT W mb us → MonoT us → (∀ q, coefAt q us = coefAt q (L ++ t1)) → Calls Try.prog 54 #[.map (some mb), .string (p ++ b0), .string a, .string b1] W (Shuf mb (L ++ t1 ++ t2) W)) := Lib.hid fun us W hU mU hq => by
        have h := ih (p ++ b0) a b1 mb us (L ++ t1) W (by omega) (by rw [append_size]; omega) mpb ma mb1 hU mU hq (bnd_append hB bt1) (by rw [ht2, List.length_append]; omega)
        rw [ht2] at h
        exact h
      have hn1 : ¬ 9223372036854775807 < p.size + a0.size := by omega
      have hn2 : ¬ 9223372036854775807 < p.size + b0.size := by omega
      have ha1' : 1 ≤ a.size := by omega
      have hb1' : 1 ≤ b.size := by omega
      have hai : (1 : Int) ≤ a.size := by omega
      have hbi : (1 : Int) ≤ b.size := by omega
      clear hsplit ht1 ht2 hlen hB ih hT mT hL he sa0 sa1 sb0 sb1 hk bt1 mpa mpb ma0 ma1 mb0 mb1 mp ma mb'
      go_enter Try.func54, Try.ntmps54
      go_wp2_with fail
      refine wp_region_below_tail 8 hmx (by kernel_rfl) ?_
      simp only [List.take_succ_cons, List.take_zero, List.drop_succ_cons, List.drop_zero]
      repeat (((with_reducible refine wpQuiet_step (fun K hK => ?_)); go_simp; first | ((with_reducible refine hK _ ?_); clear hK K) | (refine (if_neg (by decide)).mpr ?_; (with_reducible refine hK _ ?_); clear hK K)))
      with_reducible refine wpQuiet_nil ?_
      rintro W ⟨⟨W, hW⟩, rfl⟩
      change wpList _ _ _ _ _ W
      go_wp2_with fail
      refine (H1.out W hW).mono ?_
      rintro e w2 ⟨rfl, ⟨us, hU, mU, hq⟩, hg2⟩
      have HU := Lib.hid hU
      have HMU := Lib.hid mU
      have HQ := Lib.hid hq
      have HG2 := Lib.hid (((grown_of_below hW).but (some mb)).andThen hg2 (fun j ej => by cases ej; exact Or.inr rfl) : w.grownBy w2 (some mb))
      clear hU mU hq hg2
      go_wp2_with fail
      refine wp_region_below_tail 8 hmx (by kernel_rfl) ?_
      simp only [List.take_succ_cons, List.take_zero, List.drop_succ_cons, List.drop_zero]
      repeat (((with_reducible refine wpQuiet_step (fun K hK => ?_)); go_simp; first | ((with_reducible refine hK _ ?_); clear hK K) | (refine (if_neg (by decide)).mpr ?_; (with_reducible refine hK _ ?_); clear hK K)))
      with_reducible refine wpQuiet_nil ?_
      rintro W2 ⟨⟨W2, hW2⟩, rfl⟩
      change wpList _ _ _ _ _ W2
      go_wp2_with fail
      refine (H2.out us W2 (HU.out.below hW2) HMU.out HQ.out).mono ?_
      rintro e w4 ⟨rfl, hX, hg4⟩
      have HX := Lib.hid hX
      clear hX
      go_wp2
      refine bodyPost_ret (by simp [results, Try.f54, go_sem]; rfl) rfl ?_
      exact ⟨rfl, HX.out, HG2.out.andThen (((grown_of_below hW2).but (some mb)).andThen hg4 (fun j ej => by cases ej; exact Or.inr rfl)) (fun j ej => by cases ej; exact Or.inr rfl)⟩

/-! ### SeriesShuffle -/
set_option maxRecDepth 100000 in
set_option maxHeartbeats 4000000 in
theorem iSeriesShuffle_any (a b : ByteArray) (r : Bool) (w : World) (ha : a.size ≤ 1048576) (hb : b.size ≤ 1048576) (hr : shufB a b = r) :
    Calls Try.prog 27 #[.string a, .string b] w (ITold w r (canonT (shufT 4 { data := #[] } a b))) := by
  have hmm := @run_makeMap Try.prog
  have hma : a.size ≤ maxLen := by unfold maxLen; omega
  have hmb : b.size ≤ maxLen := by unfold maxLen; omega
  have HRR := Lib.hid hr
  unfold shufB at hr
  cases h1 : monoB a with
  | false =>
    rw [h1] at hr
    obtain rfl : false = r := hr
    have H1 := Lib.hid h1
    clear h1
    go_enter Try.func27, Try.ntmps27
    go_wp2_with fail
    refine (known4_is a false _ hma H1.out).mono ?_
    rintro e w1 ⟨rfl, hb1⟩
    have HB1 := Lib.hid hb1
    clear hb1
    go_wp2
    go_ret2
    exact ⟨⟨_, rfl, ownNil _ _⟩, HB1.out⟩
  | true =>
    have H1 := Lib.hid h1
    cases h2 : monoB b with
    | false =>
      rw [h1, h2] at hr
      obtain rfl : false = r := hr
      have H2 := Lib.hid h2
      clear h1 h2
      go_enter Try.func27, Try.ntmps27
      go_wp2_with fail
      refine (known4_is a true _ hma H1.out).mono ?_
      rintro e w1 ⟨rfl, hb1⟩
      have HB1 := Lib.hid hb1
      clear hb1
      go_wp2_with fail
      refine (known4_is b false _ hmb H2.out).mono ?_
      rintro e w2 ⟨rfl, hb2⟩
      have HB2 := Lib.hid (HB1.out.trans (hb2.mono HB1.out.size))
      clear hb2
      go_wp2
      go_ret2
      exact ⟨⟨_, rfl, ownNil _ _⟩, HB2.out⟩
    | true =>
      rw [h1, h2, Bool.true_and, Bool.true_and] at hr
      have H2 := Lib.hid h2
      have ha4 := mono_size h1
      have hb4 := mono_size h2
      by_cases h4 : a.size + b.size ≤ 4
      · rw [decide_eq_true h4] at hr
        obtain rfl : true = r := hr
        have hgt : decide ((4 : Int) < (a.size : Int) + (b.size : Int)) = false := decide_eq_false (by omega)
        have hadd : IntKind.i64.wrap ((a.size : Int) + (b.size : Int)) = (a.size : Int) + (b.size : Int) := IntWalk.i64_in _ (by omega)
        have HL := Lib.hid (shufT_len 4 { data := #[] } a b)
        have HTW := Lib.hid (shufB_tw HRR.out rfl)
        clear h1 h2
        go_enter Try.func27, Try.ntmps27
        go_wp2_with fail
        refine (known4_is a true _ hma H1.out).mono ?_
        rintro e w1 ⟨rfl, hb1⟩
        have HB1 := Lib.hid hb1
        clear hb1
        go_wp2_with fail
        refine (known4_is b true _ hmb H2.out).mono ?_
        rintro e w2 ⟨rfl, hb2⟩
        have HB2 := Lib.hid (HB1.out.trans (hb2.mono HB1.out.size))
        clear hb2
        have h0 := mapT_made w2
        have hB3 : Below w.heap.size w (w2.alloc (.map #[] 0)) := HB2.out.alloc HB2.out.size _
        have hs2 := HB2.out.size
        obtain ⟨mb, hmb'⟩ : ∃ mb, w2.heap.size = mb := ⟨_, rfl⟩
        rw [hmb'] at h0 hs2
        have HMB := Lib.hid hmb'
        have HB3 := Lib.hid hB3
        have H0 := Lib.hid h0
        clear hB3 h0 hmb'
        go_wp2_with fail
        try simp only [HMB.out]
        refine (shuffle_any 4 { data := #[] } a b mb [] [] _ h4 (by show 0 + a.size + b.size ≤ 4; omega) (by decide) H1.out H2.out H0.out (fun t ht => by cases ht) (fun _ => rfl) (fun t ht => by cases ht) (by have := HL.out; simp only [List.length_nil]; omega)).mono ?_
        rintro e w4 ⟨rfl, ⟨us, hU, mU, hq⟩, hg⟩
        have hlu := apart_len341 hU.apart mU
        have HC := Lib.hid (show canonT us = canonT (shufT 4 { data := #[] } a b) from canon_same fun q => by rw [hq, List.nil_append])
        have HB4 := Lib.hid (HB3.out.grown hg HB3.out.size (fun j ej => by cases ej; exact hs2))
        have hs4 := HB4.out.size
        have HU := Lib.hid hU
        clear hU mU hq hg
        go_wp2_with fail
        refine (seriesTold_any mb us true _ HU.out (by omega) (by rw [HC.out]; exact HTW.out)).mono ?_
        rintro e w5 ⟨⟨v, rfl, ho⟩, hb5⟩
        rw [HC.out] at ho
        have HO := Lib.hid ho
        have HB5 := Lib.hid (HB4.out.trans (hb5.mono hs4))
        clear ho hb5
        go_wp2
        go_ret2
        exact ⟨⟨_, rfl, HO.out.mono hs4⟩, HB5.out⟩
      · rw [decide_eq_false h4] at hr
        obtain rfl : false = r := hr
        have hgt : decide ((4 : Int) < (a.size : Int) + (b.size : Int)) = true := decide_eq_true (by omega)
        have hadd : IntKind.i64.wrap ((a.size : Int) + (b.size : Int)) = (a.size : Int) + (b.size : Int) := IntWalk.i64_in _ (by omega)
        clear h1 h2
        go_enter Try.func27, Try.ntmps27
        go_wp2_with fail
        refine (known4_is a true _ hma H1.out).mono ?_
        rintro e w1 ⟨rfl, hb1⟩
        have HB1 := Lib.hid hb1
        clear hb1
        go_wp2_with fail
        refine (known4_is b true _ hmb H2.out).mono ?_
        rintro e w2 ⟨rfl, hb2⟩
        have HB2 := Lib.hid (HB1.out.trans (hb2.mono HB1.out.size))
        clear hb2
        go_wp2
        go_ret2
        exact ⟨⟨_, rfl, ownNil _ _⟩, HB2.out⟩

/-! ### As a law wants them -/
theorem sSeriesShuffle_law {a b : ByteArray} {r : Bool} {w : World} (ha : a.size ≤ 1048576) (hb : b.size ≤ 1048576) (hr : shufB a b = r) :
    Calls Try.prog 26 #[.string a, .string b] w (STold w r (canonT (shufT 4 { data := #[] } a b))) := sSeriesShuffle_any a b r w ha hb hr
theorem iSeriesShuffle_law {a b : ByteArray} {r : Bool} {w : World} (ha : a.size ≤ 1048576) (hb : b.size ≤ 1048576) (hr : shufB a b = r) :
    Calls Try.prog 27 #[.string a, .string b] w (ITold w r (canonT (shufT 4 { data := #[] } a b))) := iSeriesShuffle_any a b r w ha hb hr

end Go.Proofs.Ytmbffbjopehllaa

/- The contracts of the laws' 'markTermS' and 'heldTermS'. -/

namespace Go.Proofs.Ytmbffbjopehllaa
open Go.RowKit Go.Shelf

def markT (k i : Nat) : Tm := ⟨((k + 2 * i : Nat) : Int), mkS (k + 2 * i + 1)⟩
/-- The marks from k on. -/
def marksT (k n : Nat) : List Tm := (List.range n).map (markT k)
theorem marksT_len (k n : Nat) : (marksT k n).length = n := by simp [marksT]
theorem marksT_get (k n i : Nat) (h : i < (marksT k n).length) : (marksT k n)[i] = markT k i := by simp [marksT]
theorem marksT_set (k j n : Nat) (us : List Tm) (hl : us.length = n) (hj : j < n) : (marksT k j ++ us.drop j).set j (markT k j) = marksT k (j + 1) ++ us.drop (j + 1) := by
  rw [List.set_append_right _ _ (by rw [marksT_len]; exact Nat.le_refl _), marksT_len, Nat.sub_self, List.drop_eq_getElem_cons (by omega : j < us.length), List.set_cons_zero]
  unfold marksT
  rw [List.range_succ, List.map_append, List.append_assoc]
  rfl

theorem ownsRow_past {w w' : World} {base : Nat} {e : TypeId} {size : Nat} {v : Value} {n : Nat} {xs : List Value} (h : w.ownsRow base e size v n xs) (hb : Below w.heap.size w w') : w'.ownsRow base e size v n xs :=
  h.kept ⟨hb.os, hb.tape, hb.output, hb.size, fun j hj _ => hb.block j hj⟩ (row := none) (by
    rcases h.2 with ⟨rfl, _⟩ | ⟨g, cap, cur, rfl, _⟩
    · exact .inl rfl
    · exact .inr (by simp [Value.ownBlock]))
theorem marksT_row (k j n : Nat) (us : List Tm) (hl : us.length = n) (hj : j < n) :
    ((termsV (marksT k j ++ us.drop j)).set (j * 2) (.int .i64 ((k + 2 * j : Nat) : Int))).set (j * 2 + 1) (.string (mkS (k + 2 * j + 1))) = termsV (marksT k (j + 1) ++ us.drop (j + 1)) := by
  rw [← marksT_set k j n us hl hj]
  exact set_terms _ j (markT k j) (by rw [List.length_append, marksT_len, List.length_drop]; omega)

theorem grown_trans {a b c : World} {row : Option Nat} (h : a.grownBy b row) (k : b.grownBy c row) : a.grownBy c row :=
  ⟨k.os.trans h.os, k.tape.trans h.tape, k.output.trans h.output, Nat.le_trans h.size k.size, fun i hi hne => (k.block i (Nat.lt_of_lt_of_le hi h.size) hne).trans (h.block i hi hne)⟩
theorem grown_refl (a : World) (row : Option Nat) : a.grownBy a row := ⟨rfl, rfl, rfl, Nat.le_refl _, fun _ _ _ => rfl⟩
theorem grown_below {a b : World} (row : Option Nat) (h : Below a.heap.size a b) : a.grownBy b row := ⟨h.os, h.tape, h.output, h.size, fun i hi _ => h.block i hi⟩
theorem mkB_size : ∀ (m : Nat) (t : ByteArray), (mkB m t).size ≤ t.size + m := by
  intro m
  induction m using Nat.strongRecOn with
  | _ m ih =>
    intro t
    by_cases h : m = 0
    · subst h; rw [mkB_zero]; exact Nat.le_refl _
    · rw [← mkB_step h]
      have h1 := ih (m / 10) (by omega) (⟨#[UInt8.ofNat (48 + m % 10)]⟩ ++ t)
      have h2 : ((⟨#[UInt8.ofNat (48 + m % 10)]⟩ : ByteArray) ++ t).size = 1 + t.size := by simp [ByteArray.size_append]; rfl
      omega
theorem mkS_size (k : Nat) : (mkS k).size ≤ k + 1 := by
  have h := mkB_size k ⟨#[]⟩
  have h0 : (⟨#[]⟩ : ByteArray).size = 0 := rfl
  have h1 : (mkS k).size = 1 + (mkB k ⟨#[]⟩).size := by unfold mkS; simp [ByteArray.size_append]; rfl
  omega
theorem marksT_small (k n : Nat) (hk : k ≤ 1000000) (hn : n ≤ 1048576) : SmallT (marksT k n) :=
  ⟨by rw [marksT_len]; unfold maxLen; omega, fun t ht => by
    unfold marksT at ht
    obtain ⟨i, hi, rfl⟩ := List.mem_map.1 ht
    have hi := List.mem_range.1 hi
    have := mkS_size (k + 2 * i + 1)
    unfold markT maxLen
    dsimp only
    omega⟩

set_option maxRecDepth 100000 in
set_option maxHeartbeats 2000000 in
theorem markTermS_any (base k : Nat) (v : Value) (us : List Tm) (w : World) (h : OwnT base w v us) (hn : us.length ≤ 1048576) (hk0 : 0 < k) (hk : k ≤ 10000000) :
    Calls Try.prog 18 #[v, .int .i64 k] w fun e w' => e = .returned (.int .i64 ((k + 2 * us.length : Nat) : Int)) ∧ OwnT base w' v (marksT k us.length) ∧ w.grownBy w' v.ownBlock := by
  obtain ⟨a, cap, rfl⟩ : ∃ a cap, v = .slice a us.length cap := by
    rcases h.2 with ⟨rfl, h0⟩ | ⟨g, cap, cur, rfl, _⟩
    · exact ⟨none, 0, by rw [h0]⟩
    · exact ⟨_, _, rfl⟩
  obtain ⟨n, hl⟩ : ∃ n, us.length = n := ⟨_, rfl⟩
  unfold OwnT at h ⊢
  rw [hl] at h hn ⊢
  rw [marksT_len]
  have HH := Lib.hid h
  have HL := Lib.hid hl
  clear h hl
  go_enter Try.func18, Try.ntmps18
  go_wp2
  go_loopw [1, 5] (fun q i wr => ∃ j : Nat, j ≤ n ∧ q = .int .i64 ((k + 2 * j : Nat) : Int) ∧ i = .int .i64 j ∧ Hid (wr.ownsRow base TI 2 (.slice a n cap) n (termsV (marksT k j ++ us.drop j))) ∧ Hid (w.grownBy wr (Value.slice a n cap).ownBlock)) (fun _ i _ => n - (intOf i).toNat)
  case atStart => exact ⟨0, Nat.zero_le _, rfl, rfl, Lib.hid (by simpa [marksT] using HH.out), Lib.hid (grown_refl _ _)⟩
  case round =>
    obtain ⟨j, hj, rfl, rfl, HR, HB⟩ := hrel
    by_cases hlt : j < n
    · obtain ⟨g, rfl, hg⟩ : ∃ g, a = some ⟨g, 0, none⟩ ∧ base ≤ g := by
        rcases HR.out.2 with ⟨_, e1⟩ | ⟨g, cap1, cur, e0, hg, _⟩
        · omega
        · simp only [Value.slice.injEq] at e0; exact ⟨g, e0.1, hg⟩
      have hxl : (termsV (marksT k j ++ us.drop j)).length = n * 2 := by rw [termsV_len, List.length_append, marksT_len, List.length_drop, HL.out]; omega
      have hd0 : ∃ u, wr.cell? ⟨g, j * 2, none⟩ = some u := by rw [HR.out.cellAt _ (by omega)]; exact ⟨_, List.getElem?_eq_getElem (by omega)⟩
      obtain ⟨u0, hu0⟩ := hd0
      have hf0 := HR.out.frozenAt (j * 2)
      obtain ⟨m, hm⟩ : ∃ m, k + 2 * j = m := ⟨_, rfl⟩
      have hm1 : m ≤ 20000000 := by omega
      rw [hm]
      have hst := (HR.out.stored (j * 2) (.int .i64 (m : Int))).1
      have hbw := (HR.out.stored (j * 2) (.int .i64 (m : Int))).2
      have HM := Lib.hid hm
      have HST := Lib.hid hst
      have HBW := Lib.hid (grown_trans HB.out hbw)
      clear hm hst hbw hxl
      go_wp2_with fail
      refine (show Calls Try.prog 49 #[.int .i64 ((m : Int) + 1)] _ _ from markText_any (m + 1) _ (by omega) (by omega)).mono ?_
      rintro e w4 ⟨rfl, hb4⟩
      have hr4 := ownsRow_past HST.out hb4
      have hxl4 := hr4.1
      have hd1 : ∃ u, w4.cell? ⟨g, j * 2 + 1, none⟩ = some u := by rw [hr4.cellAt _ (by omega)]; exact ⟨_, List.getElem?_eq_getElem (by omega)⟩
      obtain ⟨u1, hu1⟩ := hd1
      have hf1 := hr4.frozenAt (j * 2 + 1)
      have HR4 := Lib.hid hr4
      have HB4 := Lib.hid (grown_trans HBW.out (grown_below _ hb4))
      clear hr4 hb4 hxl4
      go_wp2
      go_roundw
      case rel =>
        refine ⟨j + 1, by omega, by have := HM.out; go_num, by go_num, Lib.hid ?_, Lib.hid (grown_trans HB4.out (HR4.out.stored (j * 2 + 1) (.string (mkS (m + 1)))).2)⟩
        rw [← marksT_row k j n us HL.out hlt, HM.out]
        exact (HR4.out.stored (j * 2 + 1) (.string (mkS (m + 1)))).1
      case measure => simp [intOf]; omega
    · obtain rfl : j = n := by omega
      go_wp2
      go_ret
      refine ⟨rfl, ?_, HB.out⟩
      have := HR.out
      rw [List.drop_of_length_le (by rw [HL.out]; exact Nat.le_refl _), List.append_nil] at this
      exact this

/-! ### Texts -/
def marksS (k n : Nat) : List ByteArray := (List.range n).map fun i => mkS (k + i)
theorem marksS_len (k n : Nat) : (marksS k n).length = n := by simp [marksS]
theorem marksS_set (k j n : Nat) (us : List ByteArray) (hl : us.length = n) (hj : j < n) : (strsV (marksS k j ++ us.drop j)).set j (.string (mkS (k + j))) = strsV (marksS k (j + 1) ++ us.drop (j + 1)) := by
  have h1 : (marksS k j ++ us.drop j).set j (mkS (k + j)) = marksS k (j + 1) ++ us.drop (j + 1) := by
    rw [List.set_append_right _ _ (by rw [marksS_len]; exact Nat.le_refl _), marksS_len, Nat.sub_self, List.drop_eq_getElem_cons (by omega : j < us.length), List.set_cons_zero]
    unfold marksS
    rw [List.range_succ, List.map_append, List.append_assoc]
    rfl
  rw [← h1]
  unfold strsV
  rw [List.map_set]
def OwnS (base : Nat) (w : World) (v : Value) (zs : List ByteArray) : Prop := w.ownsRow base 9 1 v zs.length (strsV zs)
theorem OwnS.below {base : Nat} {w w' : World} {v : Value} {zs : List ByteArray} (h : OwnS base w v zs) (hb : Below w.heap.size w w') : OwnS base w' v zs := ownsRow_past h hb

set_option maxRecDepth 100000 in
set_option maxHeartbeats 2000000 in
theorem heldTermS_any (k : Nat) (a : Option Addr) (cap n : Nat) (w : World) (hs : IsTerms w a n (marksT k n)) (hn : n ≤ 1048576) (hk0 : 0 < k) (hk : k ≤ 1000000) :
    Calls Try.prog 19 #[.slice a n cap, .int .i64 k] w fun e w' => e = .returned (.int .i64 ((k + 2 * n : Nat) : Int)) ∧ Below w.heap.size w w' := by
  have HS := Lib.hid hs
  have hmx : Try.prog.follows .mixedOrders = true := by kernel_rfl
  clear hs
  go_enter Try.func19, Try.ntmps19
  go_wp2
  go_loopw [1, 5] (fun q i wr => ∃ j : Nat, j ≤ n ∧ q = .int .i64 ((k + 2 * j : Nat) : Int) ∧ i = .int .i64 j ∧ Below w.heap.size w wr) (fun _ i _ => n - (intOf i).toNat)
  case atStart => exact ⟨0, Nat.zero_le _, rfl, rfl, Below.refl _ _⟩
  case round =>
    obtain ⟨j, hj, rfl, rfl, hB⟩ := hrel
    by_cases hlt : j < n
    · obtain ⟨x, rfl, hx⟩ := HS.out.at_ (by omega)
      have hxw := hx.below hB
      have hc := hxw.2 j (by rw [marksT_len]; exact hlt)
      rw [marksT_get, addr_next] at hc
      obtain ⟨m, hm⟩ : ∃ m, k + 2 * j = m := ⟨_, rfl⟩
      have hm1 : m ≤ 4000000 := by omega
      unfold markT at hc
      rw [hm] at hc ⊢
      obtain ⟨c0, c1⟩ := hc
      dsimp only at c0 c1
      have hbx := hxw.1
      have v1 := BelowBy.cell (w := wr) (by show (x.add (j * 2)).block < _; rw [addr_add_block]; exact hbx) c1
      have HT : Hid (∀ W : World, Calls Try.prog 49 #[.int .i64 ((m : Int) + 1)] W fun e w' => e = .returned (.string (mkS (m + 1))) ∧ Below W.heap.size W w') :=
        Lib.hid fun W => markText_any (m + 1) W (by omega) (by omega)
      have HM := Lib.hid hm
      clear hm hx hxw c1
      go_wp2
      refine wp_region_below hmx (by kernel_rfl) ?_
      repeat (((with_reducible refine wpQuiet_step (fun K hK => ?_)); go_simp; first | ((with_reducible refine hK _ ?_); clear hK K) | (refine (if_neg (by decide)).mpr ?_; (with_reducible refine hK _ ?_); clear hK K) | (apply Exists.intro; (with_reducible refine ⟨fun _ => ?_, hK _ ?_⟩); (go_at_call 49; exact Calls.bel (HT.out _)); clear hK K)))
      with_reducible refine wpQuiet_nil ?_
      rintro W ⟨⟨W, hW⟩, rfl⟩
      clear v1
      have hBW : Below w.heap.size w W := hB.trans (hW.mono hB.size)
      change Exit.then _ _ _ _ W
      go_wp2
      go_roundw
      case rel => exact ⟨j + 1, by omega, by have := HM.out; go_num, by go_num, hBW⟩
      case measure => simp [intOf]; omega
    · obtain rfl : j = n := by omega
      go_wp2
      go_ret
      exact ⟨rfl, hB⟩

end Go.Proofs.Ytmbffbjopehllaa

/- The contracts of the program's 'SumAdd'; both SumAdds as a law wants them. -/

namespace Go.Proofs.Ytmbffbjopehllaa
open Go.RowKit Go.Shelf

theorem sumB_small {x : List Tm} (h : sumB x = true) : x.length ≤ 300 ∧ (∀ t ∈ x, t.s.size ≤ 60 ∧ -1000000 ≤ t.c ∧ t.c ≤ 1000000) ∧ SmallT x := by
  obtain ⟨h1, h2⟩ := canon_len_words (sumB_parts h).1
  have h3 : ∀ t ∈ x, t.s.size ≤ 60 ∧ -1000000 ≤ t.c ∧ t.c ≤ 1000000 := fun t ht => termB_iff (h2 t ht)
  exact ⟨h1, h3, by unfold maxLen; omega, fun t ht => by have := h3 t ht; unfold maxLen; omega⟩
theorem told_small {b : Bool} {L us : List Tm} (h : b = true → twB L = true) (hus : cond b L [] = us) : SmallT us ∧ us.length ≤ 300 := by
  cases b with
  | false => subst hus; exact ⟨⟨Nat.zero_le _, fun t h => by cases h⟩, Nat.zero_le _⟩
  | true =>
    have hus : L = us := hus
    subst hus
    obtain ⟨h1, h2⟩ := canon_len_words (h rfl)
    exact ⟨⟨by unfold maxLen; omega, fun t ht => by have := termB_iff (h2 t ht); unfold maxLen; omega⟩, h1⟩

theorem two_cells (w : World) (u v : Value) (x y : List Tm) (t : TypeId) : ∀ i (h : i < [(u, x), (v, y)].length), (w.alloc (.cells #[u, v] t)).cell? ⟨w.heap.size, i, none⟩ = some [(u, x), (v, y)][i].1 := fun i h => by
  rw [World.cell?_alloc_at _ _ _ _ rfl]
  match i, h with
  | 0, _ => rfl
  | 1, _ => rfl
theorem addB_tw {x y : List Tm} {b : Bool} (h : addB x y = b) : b = true → twB (canonT (x ++ y)) = true := by
  intro hb
  subst hb
  unfold addB at h
  simp only [Bool.and_eq_true] at h
  exact h.2.2

end Go.Proofs.Ytmbffbjopehllaa

/- What the laws on lists of terms need about rows of the call's own. -/

namespace Go.Proofs.Ytmbffbjopehllaa
open Go.RowKit Go.Shelf

theorem isTerms_owns {w : World} {base g cap n : Nat} {a : Option Addr} {w0 : World} {ts : List Tm} (h0 : IsTerms w0 a n ts) (h : w.ownsRow base TI 2 (.slice (some ⟨g, 0, none⟩) n cap) n (termsV ts)) : IsTerms w (some ⟨g, 0, none⟩) n ts :=
  ⟨h0.len, h0.max, fun _ => ⟨_, rfl, termsAt_of_owns h0.len h⟩, h0.small⟩
theorem ownIsTerms {base : Nat} {w : World} {a : Option Addr} {n c : Nat} {ts : List Tm} (h : OwnT base w (.slice a n c) ts) (hs : SmallT ts) : IsTerms w a n ts := by
  obtain ⟨a', c', e, hI⟩ := h.isTerms hs
  simp only [Value.slice.injEq] at e
  obtain ⟨rfl, rfl, rfl⟩ := e
  exact hI
theorem IsTerms.smallT {w : World} {a : Option Addr} {n : Nat} {ts : List Tm} (h : IsTerms w a n ts) : SmallT ts := ⟨by rw [h.len]; exact h.max, h.small⟩
theorem OwnT.keptBy {base : Nat} {w w' : World} {v : Value} {ts : List Tm} {row : Option Nat} (h : OwnT base w v ts) (hg : w.grownBy w' row) (hne : v.ownBlock = row → False) : OwnT base w' v ts := h.kept hg (.inr hne)
theorem OwnS.keptBy {base : Nat} {w w' : World} {v : Value} {ts : List ByteArray} {row : Option Nat} (h : OwnS base w v ts) (hg : w.grownBy w' row) (hne : v.ownBlock = row → False) : OwnS base w' v ts := h.kept hg (.inr hne)
theorem IsStrs.below {w w' : World} {a : Option Addr} {n : Nat} {zs : List ByteArray} (h : IsStrs w a n zs) (hb : Below w.heap.size w w') : IsStrs w' a n zs := ⟨h.len, h.max, h.at_.below hb⟩
theorem isStrs_owns {w : World} {base g n : Nat} {a : Option Addr} {w0 : World} {zs : List ByteArray} (h0 : IsStrs w0 a n zs) (h : w.ownsRow base 9 1 (.slice (some ⟨g, 0, none⟩) n n) n (strsV zs)) : IsStrs w (some ⟨g, 0, none⟩) n zs :=
  ⟨h0.len, h0.max, (strsAt_of_owns h0.len h h0.at_.small).1⟩
theorem ownIsStrs {base : Nat} {w w0 : World} {a : Option Addr} {g n : Nat} {zs : List ByteArray} (h0 : IsStrs w0 a n zs) (h : OwnS base w (.slice (some ⟨g, 0, none⟩) n n) zs) : StrsAt w (some ⟨g, 0, none⟩) zs := by
  unfold OwnS at h
  rw [h0.len] at h
  exact (strsAt_of_owns h0.len h h0.at_.small).1

end Go.Proofs.Ytmbffbjopehllaa

/- How many shuffles there are, how long they are, the two texts changed; the contract of the laws' 'sameSum'. -/

namespace Go.Proofs.Ytmbffbjopehllaa
open Go.RowKit Go.Shelf

def cntN : Nat → Nat → Nat → Nat
  | 0, _, _ => 1
  | k + 1, i, j => if i = 0 ∨ j = 0 then 1 else cntN k (i - 1) j + cntN k i (j - 1)
def wayN (j : Nat) : Nat → Nat
  | 0 => 1
  | i + 1 => wayN j i * (j + (i + 1)) / (i + 1)
theorem ways_cnt : ∀ i j : Fin 5, i.val + j.val ≤ 4 → wayN j.val i.val = cntN 4 i.val j.val := by decide
theorem ways_small : ∀ i j : Fin 5, wayN j.val i.val ≤ 1000 := by decide
theorem ways_is {i j : Nat} (h : i + j ≤ 4) : wayN j i = cntN 4 i j := ways_cnt ⟨i, by omega⟩ ⟨j, by omega⟩ h
theorem wayN_le {i j : Nat} (hi : i ≤ 4) (hj : j ≤ 4) : wayN j i ≤ 1000 := ways_small ⟨i, by omega⟩ ⟨j, by omega⟩
/-- The sum of all coefficients. -/
abbrev sumC (ts : List Tm) : Int := linT (fun _ => 1) ts
theorem shufT_sum : ∀ (k : Nat) (p a b : ByteArray), sumC (shufT k p a b) = (cntN k a.size b.size : Int)
  | 0, _, _, _ => by simp [sumC, shufT, linT, cntN]
  | k + 1, p, a, b => by
    by_cases h : a.size = 0 ∨ b.size = 0
    · rw [shufT_end h, cntN, if_pos h]; simp [sumC, linT]
    · have ha : ¬ a.size = 0 := fun e => h (.inl e)
      have hb : ¬ b.size = 0 := fun e => h (.inr e)
      have sa1 : (a.extract 1 a.size).size = a.size - 1 := by rw [ByteArray.size_extract]; omega
      have sb1 : (b.extract 1 b.size).size = b.size - 1 := by rw [ByteArray.size_extract]; omega
      have h1 := shufT_sum k (p ++ a.extract 0 1) (a.extract 1 a.size) b
      have h2 := shufT_sum k (p ++ b.extract 0 1) a (b.extract 1 b.size)
      rw [sa1] at h1
      rw [sb1] at h2
      rw [shufT_go ha hb, cntN, if_neg h]
      unfold sumC at h1 h2 ⊢
      rw [linT_append, h1, h2]
      push_cast; rfl
theorem shufT_size : ∀ (k : Nat) (p a b : ByteArray), ∀ t ∈ shufT k p a b, t.s.size = p.size + a.size + b.size
  | 0, p, a, b, t, ht => by
    rw [List.mem_singleton.1 ht]
    show (p ++ a ++ b).size = _
    rw [append_size, append_size]
  | k + 1, p, a, b, t, ht => by
    by_cases h : a.size = 0 ∨ b.size = 0
    · rw [shufT_end h] at ht
      rw [List.mem_singleton.1 ht]
      show (p ++ a ++ b).size = _
      rw [append_size, append_size]
    · have ha : ¬ a.size = 0 := fun e => h (.inl e)
      have hb : ¬ b.size = 0 := fun e => h (.inr e)
      have sa0 : (a.extract 0 1).size = 1 := by rw [ByteArray.size_extract]; omega
      have sa1 : (a.extract 1 a.size).size = a.size - 1 := by rw [ByteArray.size_extract]; omega
      have sb0 : (b.extract 0 1).size = 1 := by rw [ByteArray.size_extract]; omega
      have sb1 : (b.extract 1 b.size).size = b.size - 1 := by rw [ByteArray.size_extract]; omega
      rw [shufT_go ha hb] at ht
      rcases List.mem_append.1 ht with ht | ht
      · have := shufT_size k _ _ _ t ht
        rw [append_size] at this
        omega
      · have := shufT_size k _ _ _ t ht
        rw [append_size] at this
        omega
theorem leaf_swap {p a b : ByteArray} (h : a.size = 0 ∨ b.size = 0) : p ++ b ++ a = p ++ a ++ b := by
  rcases h with h | h
  · rw [no_iff.2 h]; exact bytes_ext (by simp)
  · rw [no_iff.2 h]; exact bytes_ext (by simp)
theorem shufT_swap : ∀ (k : Nat) (p a b : ByteArray), a.size + b.size ≤ k → (shufT k p b a).Perm (shufT k p a b)
  | 0, p, a, b, h => by
    rw [shufT_end (.inl (by omega)), shufT_end (.inl (by omega)), leaf_swap (.inl (by omega))]
  | k + 1, p, a, b, h => by
    by_cases he : a.size = 0 ∨ b.size = 0
    · rw [shufT_end he, shufT_end he.symm, leaf_swap he]
    · have ha : ¬ a.size = 0 := fun e => he (.inl e)
      have hb : ¬ b.size = 0 := fun e => he (.inr e)
      have sa1 : (a.extract 1 a.size).size = a.size - 1 := by rw [ByteArray.size_extract]; omega
      have sb1 : (b.extract 1 b.size).size = b.size - 1 := by rw [ByteArray.size_extract]; omega
      rw [shufT_go ha hb, shufT_go hb ha]
      refine (List.Perm.append ?_ ?_).trans List.perm_append_comm
      · exact shufT_swap k _ _ _ (by omega)
      · exact shufT_swap k _ _ _ (by omega)
theorem shuf_other {a b : ByteArray} (h : a.size + b.size ≤ 4) (p : ByteArray) : canonT (shufT 4 p b a) = canonT (shufT 4 p a b) := canon_same fun q => coefAt_perm q (shufT_swap 4 p a b h)
theorem shufB_swap (a b : ByteArray) : shufB b a = shufB a b := by
  unfold shufB
  rw [Nat.add_comm b.size a.size]
  cases monoB a <;> cases monoB b <;> simp
theorem sumC_take {ts : List Tm} {k : Nat} (h : k < ts.length) : sumC (ts.take (k + 1)) = sumC (ts.take k) + ts[k].c := by
  unfold sumC
  rw [List.take_succ_eq_append_getElem h, linT_append, linT, linT]
  omega
theorem sumC_bnd : ∀ {ts : List Tm}, BndT 1000000 ts → -(1000000 * ts.length : Int) ≤ sumC ts ∧ sumC ts ≤ 1000000 * ts.length
  | [], _ => by simp [sumC, linT]
  | t :: r, h => by
    have ih := sumC_bnd (ts := r) fun u hu => h u (List.mem_cons_of_mem _ hu)
    have h1 := h t (by simp)
    unfold sumC at ih ⊢
    rw [linT, List.length_cons]
    push_cast
    omega

set_option maxRecDepth 100000 in
set_option maxHeartbeats 4000000 in
theorem sameSum_yes (a1 a2 : Option Addr) (c1 c2 n : Nat) (ts : List Tm) (w : World) (h1 : IsTerms w a1 n ts) (h2 : IsTerms w a2 n ts) :
    Calls Try.prog 29 #[.slice a1 n c1, .slice a2 n c2] w fun e w' => e = .returned (.bool true) ∧ Below w.heap.size w w' := by
  have H1 := Lib.hid h1
  have H2 := Lib.hid h2
  have HN := Lib.hid h1.len
  have hm := h1.max
  unfold maxLen at hm
  clear h1 h2
  go_enter Try.func29, Try.ntmps29
  go_wp2
  go_loopw [5] (fun i wr => ∃ k : Nat, k ≤ n ∧ i = .int .i64 k ∧ Below w.heap.size w wr) (fun i _ => n - (intOf i).toNat)
  case atStart => exact ⟨0, Nat.zero_le _, rfl, Below.refl _ _⟩
  case round =>
    obtain ⟨k, hk, rfl, hB⟩ := hrel
    by_cases hlt : k < n
    · have hkz : k < ts.length := by rw [HN.out]; exact hlt
      obtain ⟨x, rfl, hx⟩ := H1.out.at_ (by omega)
      obtain ⟨y, rfl, hy⟩ := H2.out.at_ (by omega)
      obtain ⟨t, ht⟩ : ∃ t, ts[k] = t := ⟨_, rfl⟩
      have hc := (hx.below hB).2 k hkz
      have hd := (hy.below hB).2 k hkz
      rw [ht, addr_next] at hc hd
      obtain ⟨c0, c1'⟩ := hc
      obtain ⟨d0, d1'⟩ := hd
      have HB := Lib.hid hB
      have hki : (k : Int) < (n : Int) := by omega
      clear hx hy ht hB
      go_wp2
      go_quiet (fail)
      go_wp2
      go_roundw
      case rel => exact ⟨k + 1, by omega, by go_num, ⟨HB.out.os, HB.out.tape, HB.out.output, HB.out.size, HB.out.block⟩⟩
      case measure => simp [intOf]; omega
    · obtain rfl : k = n := by omega
      go_wp2
      go_ret
      exact ⟨rfl, hB⟩

end Go.Proofs.Ytmbffbjopehllaa

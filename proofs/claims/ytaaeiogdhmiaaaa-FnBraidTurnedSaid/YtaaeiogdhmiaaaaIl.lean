/- The contract of the program's 'WordPut'. -/
import Derived.Test.YtaaeiogdhmiaaaaIk
namespace Go.Proofs.Ytaaeiogdhmiaaaa
open Go.RowKit Go.Shelf

attribute [local go_sem] Oper.semAt_some

abbrev FV : Nat := 139

/-- What a round keeps, where the iterator is that of a word. -/
def KeepP (n₀ N : Nat) (W W' : World) : Prop := Below n₀ W W' ∧ KeepsFrom N W W'

/-- The loop's law at the letters of a word, for bodies that write where they will behind what was there. -/
theorem range_values {n : Nat} {g : Operand} {p : Tmp} {assign body : Code} {Q : Exit → Act → World → Prop} {a : Act} {w : World} {Bs : Nat} (hn : 14 ≤ n)
    (hg : a.eval g = .func (.func FV) #[] #[.pointer (some ⟨Bs, 0, none⟩)])
    {n₀ : Nat} {L : List UInt8} {sv : Value} (hBs : Bs < w.heap.size) (hc : w.cell? ⟨Bs, 0, none⟩ = some sv) (hw : IsWord n₀ w sv L) (hn₀ : n₀ ≤ w.heap.size)
    (I : List UInt8 → World → Prop) (hI : OwnFrom w.heap.size I) (h0 : I [] w) (a₁ : UInt8 → Act)
    (hassign : ∀ (l : Nat) (x : UInt8) (W : World) (K : Act → World → Prop), K (a₁ x) W →
      assign.wpIn (Fence.wide.inRound l) (n - 1 - 1) Try.prog (Exit.then K (fun _ _ _ => False)) { tmps := (#[p].zip (encB x)).foldl (fun t (q, v) => t.setIfInBounds q v) a.tmps, defers := [] } W)
    (hbody : ∀ (l : Nat) (pre : List UInt8) (x : UInt8) (W : World), I pre W → pre ++ [x] <+: L →
      body.wpIn (Fence.wide.inRound l) (n - 1 - 1) Try.prog (goesOn w.heap.size (KeepP n₀) I (pre ++ [x]) W) (a₁ x) W)
    (hdone : ∀ (D : Nat) (W : World), w.heap.size ≤ D → I L W → W.heap[D]? = some (.deferred (some [])) → Q .normal { a with defers := { target := .collected D, args := #[] } :: a.defers } W) :
    (Code.rangeFunc g #[p] assign body).wpIn Fence.wide n Try.prog Q a w :=
  range_law (by omega) hg (enters_of Try.func139 (by kernel_rfl) rfl) (fun _ => rfl) (KeepP n₀) (fun h k => ⟨h.1.trans k.1, h.2.trans k.2⟩)
    (fun N W l o o' hl hwl hW ho hwk => ⟨belowK_b hn₀ W l o o' hwl hW ho hwk, KeepsFrom.of_grownBy (grownBy_putObj' W l o') (fun j e => by cases e; exact hl)⟩)
    (fun h => ⟨h.1, keepsFrom_mono h.2 (by omega)⟩)
    (fun l J V hV hlt hJ hY h0 => (values1_in (n - 1) (by omega) l Bs n₀ L sv J (fun _ _ => False) (fun pre x W1 hj hl => (hY pre x W1 hj hl).mono (fun _ _ ⟨a, b, c⟩ => .inl ⟨a, b, c.1⟩)) V
      ((hV.cell (p := ⟨Bs, 0, none⟩) hBs).trans hc) (hw.below (hV.mono hn₀)) h0).mono (by
        rintro e W' ⟨hv, ⟨ys, rfl, hJ'⟩ | ⟨_, _, hf⟩⟩
        · exact ⟨hv, hJ'⟩
        · exact hf.elim)) I hI h0 a₁ hassign hbody hdone

/-- A part's box, and what it gives. -/
def PartAt (N : Nat) (w W : World) (p : Part) : Prop :=
  ∃ B sv L, p.lb = #[.pointer (some ⟨B, 0, none⟩)] ∧ N ≤ B ∧ Boxed W B WT sv ∧ Gives ⟨p.gf, sv, L, p.xs⟩ ∧ IsWord N w sv L
theorem PartAt.own (N : Nat) (w : World) (p : Part) : Own (fun (_ : Unit) W => PartAt N w W p) := by
  rintro s X Y row ⟨B, sv, L, h1, h2, h3, h4⟩ hg hrow
  exact ⟨B, sv, L, h1, h2, boxed_own B WT (fun _ : Unit => sv) () X Y row h3 hg hrow, h4⟩

def funcV (p : Part) : Value := .func (.func p.gf) #[] p.lb
/-- The parts that the loop has gathered. -/
def Gathered (N BP : Nat) (w : World) (img : UInt8 → List UInt8) (pre : List UInt8) (W : World) : Prop :=
  ∃ ps : List Part, ps.length = pre.length ∧ cat ps = (pre.map img).flatten ∧ (∃ v, Boxed W BP 121 v ∧ W.ownsRow N IT 1 v ps.length (ps.map funcV) ∧ True) ∧ ∀ p ∈ ps, PartAt N w W p
theorem Gathered.own (N BP : Nat) (w : World) (img : UInt8 → List UInt8) : Own (Gathered N BP w img) := by
  rintro s X Y row ⟨ps, h1, h2, h3, h4⟩ hg hrow
  exact ⟨ps, h1, h2, holdsRow_own N BP _ IT 1 (fun _ : Unit => ps.length) (fun _ => ps.map funcV) (fun _ _ => True) () X Y row h3 hg hrow, fun p hp => PartAt.own N w p () X Y row (h4 p hp) hg hrow⟩

/-- The letters of a letter's image, as its iterator gives them. -/
def imgX (zs : List ByteArray) (x : UInt8) : List UInt8 := if 97 ≤ x.toNat then (zs.getD (idxB x) ByteArray.empty).data.toList else (zs.getD (idxB x) ByteArray.empty).data.toList.reverse.map invB
/-- All images, one behind the other. -/
def putX (zs : List ByteArray) (L : List UInt8) : List UInt8 := (L.map (imgX zs)).flatten
theorem imgX_len (zs : List ByteArray) (hz : ∀ z ∈ zs, wordB z.data.toList = true) (x : UInt8) : (imgX zs x).length ≤ 60 := by
  have hz' : (zs.getD (idxB x) ByteArray.empty).data.toList.length ≤ 60 := by
    rw [List.getD_eq_getElem?_getD]
    cases h : zs[idxB x]? with
    | none => simp
    | some z => exact ((wordB_iff _).1 (hz z (List.mem_of_getElem? h))).1
  unfold imgX
  split
  · exact hz'
  · rw [List.length_map, List.length_reverse]; exact hz'
theorem putX_len (zs : List ByteArray) (L : List UInt8) (hz : ∀ z ∈ zs, wordB z.data.toList = true) : (putX zs L).length ≤ L.length * 60 := by
  unfold putX
  induction L with
  | nil => simp
  | cons x r ih =>
    rw [List.map_cons, List.flatten_cons, List.length_append, List.length_cons]
    have := imgX_len zs hz x
    omega
theorem imgX_eq (zs : List ByteArray) (hz : ∀ z ∈ zs, wordB z.data.toList = true) (x : UInt8) : imgX zs x = imgL zs x ∧ letL (imgL zs x) = true := by
  have hl : letL (zs.getD (idxB x) ByteArray.empty).data.toList = true := by
    rw [List.getD_eq_getElem?_getD]
    cases h : zs[idxB x]? with
    | none => rfl
    | some z => exact ((wordB_iff _).1 (hz z (List.mem_of_getElem? h))).2.1
  unfold imgX imgL
  by_cases h : 97 ≤ x.toNat
  · rw [if_pos h, if_neg (by omega)]; exact ⟨rfl, hl⟩
  · rw [if_neg h, if_pos (by omega)]; exact ⟨inv_back _ hl, letL_back _ hl⟩
theorem putX_eq (zs : List ByteArray) (L : List UInt8) (hz : ∀ z ∈ zs, wordB z.data.toList = true) : putX zs L = putL zs L ∧ letL (putL zs L) = true := by
  unfold putX putL
  induction L with
  | nil => exact ⟨rfl, rfl⟩
  | cons x r ih =>
    obtain ⟨h1, h2⟩ := imgX_eq zs hz x
    rw [List.map_cons, List.map_cons, List.flatten_cons, List.flatten_cons, h1, ih.1, letL_append, h2, ih.2]
    exact ⟨rfl, rfl⟩
theorem letL_putX (zs : List ByteArray) (L : List UInt8) (hz : ∀ z ∈ zs, wordB z.data.toList = true) : letL (putX zs L) = true := by
  rw [(putX_eq zs L hz).1]; exact (putX_eq zs L hz).2
abbrev LTi : TypeId := 121

theorem infoSeqI : (Try.prog.info? IT).map (fun i => (i.zero, i.size, i.bytes)) = some (some .nilFunc, 1, 8) := by kernel_rfl

/-- An append in whatever place of a region. -/
theorem wpIn_append_op {F : Fence} {n : Nat} {P : Program} (w : World) {o : Oper} {a : Act} {K : Act → World → Prop} {Q : Exit → Act → World → Prop}
    (s x : Operand) (t : TypeId) (hop : o.op = Op.call { callee := Callee.builtin Builtin.append, args := #[s, x], argTypes := #[t, t] })
    (base : Nat) (e : TypeId) (i : TypeInfo) (z : Value) (size bytes : Nat) (h1 : P.underlying t = some (.slice e)) (h2 : P.info? e = some i) (h3 : i.zero = some z) (h4 : i.size = size) (h5 : i.bytes = bytes) (h6 : z.cells.size = size) (h7 : 0 < size)
    (v : Value) (k : Nat) (xs : List Value) (hs : a.eval s = v) (hown : w.ownsRow base e size v k xs) (ad : Addr) (m c : Nat) (news : List Value) (hx : a.eval x = .slice (some ad) m c) (hn : news.length = m * size)
    (hc : ∀ j u, news[j]? = some u → w.cell? (ad.add j) = some u) (h1c : ∀ u ∈ news, u.oneCell' = true) (b1 : k + m ≤ maxLen) (b2 : (k + m) * bytes ≤ 140737488355328) (b3 : base ≤ w.heap.size)
    (hK : ∀ v' w', w'.ownsRow base e size v' (k + m) (xs ++ news) → w.grownBy w' v.ownBlock → True → K (a.put o.dst v') w') : o.wpIn F n P a w K Q := by
  obtain ⟨v', w', hrun, r1, r2, _⟩ := run_append_own (P := P) w base t o.type e i z size bytes h1 h2 h3 h4 h5 h6 h7 v k xs hown ad m c news hn hc h1c b1 b2 b3
  unfold Oper.wpIn
  refine ⟨by simp [Oper.about, hop, resolve, Target.leads, Sem.run_pure], ?_⟩
  rw [Oper.semAt_plain F _ _ (by rw [hop]; intro c hc'; cases hc')]
  simp [execOp, hop, resolve, invoke, builtin, hs, hx, hrun, Result.andThen]
  exact hK v' w' r1 r2 trivial

theorem wordsOf_four (g : Nat) (zs : List ByteArray) (w : World) (hl : zs.length = 4) (hg : g < w.heap.size) (hc : ∀ i (h : i < zs.length), w.cell? ⟨g, i, none⟩ = some (.string zs[i])) (hf : ∀ z ∈ zs, wordB z.data.toList = true) (cap : Nat) :
    Calls Try.prog 123 #[.slice (some ⟨g, 0, none⟩) 4 cap] w fun e w' =>
      ∃ (gi : Nat) (vals : List Value), e = .returned (.tuple #[.slice (some ⟨gi, 0, none⟩) 4 4, .bool true]) ∧ gi < w'.heap.size ∧ (∀ j (h : j < zs.length), ∃ v, w'.cell? ⟨gi, j, none⟩ = some v ∧ vals[j]? = some v ∧ WordAt w.heap.size w' v zs[j].data.toList) ∧ Below w.heap.size w w' := by
  refine (wordsOf_any (some ⟨g, 0, none⟩) g 0 cap 4 zs w hl (by decide) (fun _ => rfl) hg (fun i h => by rw [Nat.zero_add]; exact hc i h) (fun s hs => by have := ((wordB_iff _).1 (hf s hs)).1; simp at this; unfold maxLen; omega)).mono ?_
  rintro e w' ⟨⟨_, s, hs, hb⟩ | ⟨gi, vals, rfl, _, hown, hv⟩, hB⟩
  · rw [hf s hs] at hb; cases hb
  · have hlen := hown.1
    refine ⟨gi, vals, rfl, (ownsRow_cap hown).2.2.2, fun j h => ?_, hB⟩
    have hj : j < vals.length := by omega
    exact ⟨vals[j], by rw [hown.cellAt j (by omega)]; exact List.getElem?_eq_getElem hj, List.getElem?_eq_getElem hj, hv j h _ (List.getElem?_eq_getElem hj)⟩

theorem owns_slice {W : World} {base : Nat} {e : TypeId} {v : Value} {n : Nat} {xs : List Value} (h : W.ownsRow base e 1 v n xs) (h0 : 0 < W.heap.size) :
    ∃ a cap b, v = .slice a n cap ∧ (0 < n → a = some ⟨b, 0, none⟩) ∧ b < W.heap.size ∧ ∀ i (h : i < xs.length), W.cell? ⟨b, i, none⟩ = some xs[i] := by
  have hl := h.1
  rw [Nat.mul_one] at hl
  have hc := fun g cap (e : v = .slice (some ⟨g, 0, none⟩) n cap) => e
  rcases h.2 with ⟨rfl, e⟩ | ⟨g, cap, cur, rfl, e2⟩
  · have e0 : n = 0 := e
    subst e0
    exact ⟨none, 0, 0, rfl, fun h => absurd h (Nat.lt_irrefl _), h0, fun i hi => absurd hi (by omega)⟩
  · refine ⟨_, cap, g, rfl, fun _ => rfl, (ownsRow_cap h).2.2.2, fun i hi => ?_⟩
    rw [h.cellAt i (by omega)]
    exact List.getElem?_eq_getElem hi

/-- Four words in memory. -/
def FourAt (gi : Nat) (lo : Nat) (w : World) (zs : List ByteArray) : Prop :=
  gi < w.heap.size ∧ ∀ j (h : j < zs.length), ∃ v, w.cell? ⟨gi, j, none⟩ = some v ∧ WordAt lo w v zs[j].data.toList
theorem FourAt.below {gi lo : Nat} {w w' : World} {zs : List ByteArray} (h : FourAt gi lo w zs) (hb : Below w.heap.size w w') : FourAt gi lo w' zs :=
  ⟨Nat.lt_of_lt_of_le h.1 hb.size, fun j hj => by
    obtain ⟨v, h1, h2⟩ := h.2 j hj
    exact ⟨v, (hb.cell (p := ⟨gi, j, none⟩) h.1).trans h1, h2.below hb⟩⟩

set_option maxRecDepth 100000 in
set_option maxHeartbeats 4000000 in
theorem wordPut_in (n : Nat) (hn : 40 ≤ n) (g1 k cap1 gi cg lo : Nat) (L : List UInt8) (zs : List ByteArray) (w2 : World) (hk : L.length = k) (hk60 : k ≤ 60) (hL : letL L = true)
    (hw1 : IsWord w2.heap.size w2 (.slice (some ⟨g1, 0, none⟩) k cap1) L) (hz4 : zs.length = 4) (hz : ∀ z ∈ zs, wordB z.data.toList = true) (hvals : FourAt gi lo w2 zs) :
    CallsIn Fence.wide n Try.prog 133 #[.slice (some ⟨g1, 0, none⟩) k cap1, .slice (some ⟨gi, 0, none⟩) 4 cg] w2 fun e w' =>
      ∃ g m cap, e = .returned (.slice (some ⟨g, 0, none⟩) m cap) ∧ (redX [] (L.map (imgX zs)).flatten).length = m ∧ w'.ownsRow w2.heap.size 77 1 (.slice (some ⟨g, 0, none⟩) m cap) m (bytesV (redX [] (L.map (imgX zs)).flatten)) ∧ Below w2.heap.size w2 w' := by
  have hgi := hvals.1
  have H2 := Lib.hid hL
  have HZ := Lib.hid hz
  have HV := Lib.hid hvals.2
  have HKL := Lib.hid hk
  have hw1 := Lib.hid hw1
  clear hL hz hvals hk
  refine callsIn_of_wp_marks Try.func133 rfl trivial ?_ rfl
  simp only [Try.ntmps133, List.size_toArray, List.length_cons, List.length_nil, Nat.reduceAdd, Nat.reduceSub, Array.replicate_succ, Array.replicate_zero, List.push_toArray, List.append_toArray, List.nil_append, List.cons_append]
  gi_wp2_with fail
  refine ⟨trivial, fun _ => by omega, ?_⟩
  refine (callsIn_wide.2 (letters_fwd _ _ _ 1 _ (by decide))).mono ?_
  rintro e w3 ⟨rfl, rfl⟩
  have h8 := ((Boxed.new w2 99 (.slice (some ⟨gi, 0, none⟩) 4 cg)).alloc (.cells #[.slice none 0 0] LTi)).alloc (.cells #[.slice (some ⟨g1, 0, none⟩) k cap1] WT)
  have h9 := (Boxed.new (w2.alloc (.cells #[.slice (some ⟨gi, 0, none⟩) 4 cg] 99)) LTi (.slice none 0 0)).alloc (.cells #[.slice (some ⟨g1, 0, none⟩) k cap1] WT)
  have hb := Boxed.new ((w2.alloc (.cells #[.slice (some ⟨gi, 0, none⟩) 4 cg] 99)).alloc (.cells #[.slice none 0 0] LTi)) WT (.slice (some ⟨g1, 0, none⟩) k cap1)
  have hBv : Below w2.heap.size w2 (((w2.alloc (.cells #[.slice (some ⟨gi, 0, none⟩) 4 cg] 99)).alloc (.cells #[.slice none 0 0] LTi)).alloc (.cells #[.slice (some ⟨g1, 0, none⟩) k cap1] WT)) := (((Below.refl _ w2).alloc (Nat.le_refl _) _).alloc (by simp) _).alloc (by simp; omega) _
  have hsz : (((w2.alloc (.cells #[.slice (some ⟨gi, 0, none⟩) 4 cg] 99)).alloc (.cells #[.slice none 0 0] LTi)).alloc (.cells #[.slice (some ⟨g1, 0, none⟩) k cap1] WT)).heap.size = w2.heap.size + 3 := by simp
  simp only [World.size_alloc] at h9 hb ⊢
  generalize (((w2.alloc (.cells #[.slice (some ⟨gi, 0, none⟩) 4 cg] 99)).alloc (.cells #[.slice none 0 0] LTi)).alloc (.cells #[.slice (some ⟨g1, 0, none⟩) k cap1] WT)) = V at h8 h9 hb hBv hsz ⊢
  have hwV : IsWord w2.heap.size V (.slice (some ⟨g1, 0, none⟩) k cap1) L := hw1.out.below hBv
  have HB8 := Lib.hid h8
  have HB9 := Lib.hid h9
  have HBB := Lib.hid hb
  have HWV := Lib.hid hwV
  clear h8 h9 hb hwV
  gi_wp2_with fail
  refine range_values (by omega) (Bs := w2.heap.size + 1 + 1) rfl (n₀ := w2.heap.size + 1) (L := L) (by omega) HBB.out.cell (HWV.out.mono (by omega)) (by omega)
    (fun pre X => Gathered (w2.heap.size + 1) (w2.heap.size + 1) V (imgX zs) pre X ∧ Below (w2.heap.size + 1) V X)
    (OwnFrom.and (Own.from (Gathered.own _ _ _ _) _) (ownFrom_below (by omega) (by omega)))
    ⟨⟨[], rfl, rfl, ⟨_, HB9.out, ⟨rfl, .inl ⟨rfl, rfl⟩⟩, trivial⟩, fun p h => by cases h⟩, Below.refl _ _⟩
    (fun x => { tmps := #[.slice (some ⟨g1, 0, none⟩) k cap1, .slice (some ⟨gi, 0, none⟩) 4 cg, undef, .pointer (some ⟨w2.heap.size, 0, none⟩), .slice none 0 0, .pointer (some ⟨w2.heap.size + 1, 0, none⟩), .int .u8 (x.toNat : Int), .slice (some ⟨g1, 0, none⟩) k cap1, .func (.func FV) #[] #[.pointer (some ⟨w2.heap.size + 1 + 1, 0, none⟩)], .int .u8 (x.toNat : Int), undef, undef, undef, undef, undef, undef, undef, undef, undef, undef, undef, undef, undef], defers := [] }) ?assign ?body ?done
  case assign =>
    intro l x W K hK
    gi_wp2
    exact hK
  case body =>
    rintro l pre x W ⟨⟨ps, hps, hcat, ⟨pv, hbx, hrow, _⟩, hpa⟩, hB⟩ hpre
    have hlet : letB x = true := List.all_eq_true.1 H2.out x (prefix_mem hpre)
    have hplen := prefix_len hpre
    rw [HKL.out] at hplen
    obtain ⟨j, hj⟩ : ∃ j, idxB x = j := ⟨_, rfl⟩
    have hj4 : j < 4 := by rw [← hj]; exact idxB_lt _ hlet
    obtain ⟨vj, hcv, hWA⟩ := HV.out j (by omega)
    have hcW : W.cell? ⟨gi, j, none⟩ = some vj := ((hB.cell (p := ⟨gi, j, none⟩) (by show gi < _; omega)).trans (hBv.cell (p := ⟨gi, j, none⟩) hgi)).trans hcv
    have hc8 : W.cell? ⟨w2.heap.size, 0, none⟩ = some (.slice (some ⟨gi, 0, none⟩) 4 cg) := (hB.cell (p := ⟨w2.heap.size, 0, none⟩) (by show w2.heap.size < _; omega)).trans HB8.out.cell
    have hc9 := hbx.cell
    have hIW : IsWord (w2.heap.size + 1) V vj (zs[j]'(by omega)).data.toList := (hWA.isWord.below hBv).mono (by omega)
    obtain ⟨gj, cj, rfl⟩ := hWA.slice
    obtain ⟨u, hu⟩ : ∃ u, sgnB x = u := ⟨_, rfl⟩
    obtain ⟨vj, hvj⟩ : ∃ v, Value.slice (some ⟨gj, 0, none⟩) (zs[j]'(by omega)).data.toList.length cj = v := ⟨_, rfl⟩
    obtain ⟨gf, hlt, hgv⟩ : ∃ gf : Nat, (∀ X : World, Calls Try.prog 103 #[vj, .int .i64 u] X fun e X' => e = .returned (.func (.func gf) #[] #[.pointer (some ⟨X.heap.size, 0, none⟩)]) ∧ X' = X.alloc (.cells #[vj] WT)) ∧ Gives ⟨gf, vj, (zs[j]'(by omega)).data.toList, imgX zs x⟩ := by
      have hgd : zs.getD (idxB x) ByteArray.empty = zs[j]'(by omega) := by rw [hj, List.getD_eq_getElem?_getD, List.getElem?_eq_getElem (by omega)]; rfl
      rw [← hvj, ← hu]
      by_cases h97 : 97 ≤ x.toNat
      · refine ⟨FV, fun X => letters_fwd _ _ _ _ X (by unfold sgnB; rw [if_pos h97]; decide), ?_⟩
        have : imgX zs x = (zs[j]'(by omega)).data.toList := by unfold imgX; rw [if_pos h97, hgd]
        rw [this]; exact gives_fwd _ _
      · refine ⟨137, fun X => letters_bwd _ _ _ _ X (by unfold sgnB; rw [if_neg h97]; decide), ?_⟩
        have : imgX zs x = (zs[j]'(by omega)).data.toList.reverse.map invB := by unfold imgX; rw [if_neg h97, hgd]
        rw [this]; exact gives_bwd _ _
    rw [hvj] at hcW hIW
    have hix : ∀ X, Calls Try.prog 107 #[.int .u8 (x.toNat : Int)] X fun e X' => e = .returned (.int .i64 (j : Int)) ∧ X' = X := fun X => by rw [← hj]; exact iIndex_any x X hlet
    have hsx : ∀ X, Calls Try.prog 83 #[.int .u8 (x.toNat : Int)] X fun e X' => e = .returned (.int .i64 u) ∧ X' = X := fun X => by rw [← hu]; exact iSign_any x X hlet
    have HIX := Lib.hid hix
    have HSX := Lib.hid hsx
    have HLT := Lib.hid hlt
    have HGV := Lib.hid hgv
    have HIW := Lib.hid hIW
    have HPA := Lib.hid hpa
    have HROW := Lib.hid hrow
    have HBX := Lib.hid hbx
    have hpl : ps.length ≤ 60 := by omega
    have HK := Lib.hid hps
    have HCAT := Lib.hid hcat
    clear hix hsx hlt hgv hIW hpa hrow hbx hcv hWA hpre hps hcat
    gi_wp2
    refine wpIn_region_any (by kernel_rfl) ?_
    change wpAnyIn _ _ _ _ _ _ _ _ _ (World.drew _)
    obtain ⟨i0, hi0, hz0, hz1, hz2⟩ := info_parts infoSeqI
    obtain ⟨fv, hfv⟩ : ∃ fv, Value.func (.func gf) #[] #[.pointer (some ⟨W.heap.size, 0, none⟩)] = fv := ⟨_, rfl⟩
    obtain ⟨S3, hS3⟩ : ∃ S3 : Value → World → Prop, S3 = fun v X => X.ownsRow (w2.heap.size + 1) IT 1 v (ps.length + 1) (ps.map funcV ++ [fv]) ∧ ((W.drew.alloc (.cells #[vj] WT)).alloc (.cells #[fv] IT)).grownBy X pv.ownBlock := ⟨_, rfl⟩
    refine wpAnyIn_inv (fun listed a X => ∃ (b0 b1 b2 b3 b4 b5 b6 b7 b8 b9 b10 b11 : Bool) (t31 t32 t33 t34 t35 t36 t37 t38 t39 t40 t41 : Value), listed = #[b0, b1, b2, b3, b4, b5, b6, b7, b8, b9, b10, b11] ∧ a = { tmps := #[.slice (some ⟨g1, 0, none⟩) k cap1, .slice (some ⟨gi, 0, none⟩) 4 cg, undef, .pointer (some ⟨w2.heap.size, 0, none⟩), .slice none 0 0, .pointer (some ⟨w2.heap.size + 1, 0, none⟩), .int .u8 (x.toNat : Int), .slice (some ⟨g1, 0, none⟩) k cap1, .func (.func FV) #[] #[.pointer (some ⟨w2.heap.size + 1 + 1, 0, none⟩)], .int .u8 (x.toNat : Int), t31, t32, t33, t34, t35, t36, t37, t38, t39, t40, t41, undef, undef], defers := [] } ∧
      ((b0 = true → t31 = pv) ∧ (b1 = true → t32 = .slice (some ⟨gi, 0, none⟩) 4 cg) ∧ (b2 = true → t33 = .int .u8 (x.toNat : Int)) ∧ (b3 = true → t34 = .int .i64 (j : Int)) ∧ (b4 = true → t35 = .pointer (some ⟨gi, j, none⟩)) ∧ (b5 = true → t36 = vj) ∧ (b6 = true → t37 = .int .u8 (x.toNat : Int)) ∧ (b7 = true → t38 = .int .i64 u) ∧ (b8 = true → t39 = fv) ∧ (b9 = true → t40 = .slice (some ⟨W.heap.size + 1, 0, none⟩) 1 1)) ∧
      ((b3 = true → b2 = true) ∧ (b4 = true → b1 = true ∧ b3 = true) ∧ (b5 = true → b4 = true) ∧ (b7 = true → b6 = true ∧ b3 = true) ∧ (b8 = true → b5 = true ∧ b7 = true) ∧ (b9 = true → b8 = true) ∧ (b10 = true → b9 = true ∧ b0 = true) ∧ (b11 = true → b10 = true)) ∧
      ((b8 = false → X = W.drew) ∧ (b8 = true → b9 = false → X = W.drew.alloc (.cells #[vj] WT)) ∧ (b9 = true → b10 = false → X = (W.drew.alloc (.cells #[vj] WT)).alloc (.cells #[fv] IT)) ∧ (b10 = true → b11 = false → S3 t41 X) ∧ (b11 = true → ∃ X0, S3 t41 X0 ∧ X = X0.setCell ⟨w2.heap.size + 1, 0, none⟩ t41))) ?step ?rdone _ _ _ _ (by decide) ?init
    case init =>
      exact ⟨false, false, false, false, false, false, false, false, false, false, false, false, undef, undef, undef, undef, undef, undef, undef, undef, undef, undef, undef, rfl, rfl, by simp, by simp, by simp⟩
    case step =>
      rintro listed a X i ⟨b0, b1, b2, b3, b4, b5, b6, b7, b8, b9, b10, b11, t31, t32, t33, t34, t35, t36, t37, t38, t39, t40, t41, rfl, rfl, ⟨v0, v1, v2, v3, v4, v5, v6, v7, v8, v9⟩, ⟨c3, c4, c5, c7, c8, c9, c10, c11⟩, ⟨x0, x1, x2, x3, x4⟩⟩ hun hdep hi
      have hi' : i = 0 ∨ i = 1 ∨ i = 2 ∨ i = 3 ∨ i = 4 ∨ i = 5 ∨ i = 6 ∨ i = 7 ∨ i = 8 ∨ i = 9 ∨ i = 10 ∨ i = 11 := by
        have : i < 12 := hi
        omega
      rcases hi' with rfl | rfl | rfl | rfl | rfl | rfl | rfl | rfl | rfl | rfl | rfl | rfl
      · -- 0
        obtain rfl : b0 = false := hun
        have hx : X.cell? ⟨w2.heap.size + 1, 0, none⟩ = some pv := by
          cases b8 with
          | false => rw [x0 rfl]; exact hc9
          | true =>
            cases b9 with
            | false => rw [x1 rfl rfl]; exact cell_past (cell_drawn hc9) _
            | true =>
              cases b10 with
              | false => rw [x2 rfl rfl]; exact cell_past (cell_past (cell_drawn hc9) _) _
              | true => have := (c10 rfl).2; cases this
        refine wpOpIn_step rfl (fun K' hK => ?_)
        go_simp
        refine hK _ _ ⟨true, _, _, _, _, _, _, _, _, _, _, _, _, _, _, _, _, _, _, _, _, _, _, rfl, rfl, ⟨fun _ => rfl, (by first | exact v1 | exact fun _ => rfl), (by first | exact v2 | exact fun _ => rfl), (by first | exact v3 | exact fun _ => rfl), (by first | exact v4 | exact fun _ => rfl), (by first | exact v5 | exact fun _ => rfl), (by first | exact v6 | exact fun _ => rfl), (by first | exact v7 | exact fun _ => rfl), (by first | exact v8 | exact fun _ => rfl), (by first | exact v9 | exact fun _ => rfl)⟩, ⟨c3, c4, c5, c7, c8, c9, fun h => ⟨(c10 h).1, rfl⟩, c11⟩, ⟨x0, x1, x2, x3, x4⟩⟩
      · -- 1
        obtain rfl : b1 = false := hun
        have q8 : b8 = false := by
          cases b8 with
          | false => rfl
          | true => have := (c4 (c5 (c8 rfl).1)).1; cases this
        obtain rfl := x0 q8
        have hx : W.drew.cell? ⟨w2.heap.size, 0, none⟩ = some (.slice (some ⟨gi, 0, none⟩) 4 cg) := hc8
        refine wpOpIn_step rfl (fun K' hK => ?_)
        go_simp
        refine hK _ _ ⟨_, true, _, _, _, _, _, _, _, _, _, _, _, _, _, _, _, _, _, _, _, _, _, rfl, rfl, ⟨(by first | exact v0 | exact fun _ => rfl), fun _ => rfl, (by first | exact v2 | exact fun _ => rfl), (by first | exact v3 | exact fun _ => rfl), (by first | exact v4 | exact fun _ => rfl), (by first | exact v5 | exact fun _ => rfl), (by first | exact v6 | exact fun _ => rfl), (by first | exact v7 | exact fun _ => rfl), (by first | exact v8 | exact fun _ => rfl), (by first | exact v9 | exact fun _ => rfl)⟩, ⟨c3, fun h => ⟨rfl, (c4 h).2⟩, c5, c7, c8, c9, c10, c11⟩, ⟨x0, x1, x2, x3, x4⟩⟩
      · -- 2
        obtain rfl : b2 = false := hun
        refine wpOpIn_step rfl (fun K' hK => ?_)
        go_simp
        refine hK _ _ ⟨_, _, true, _, _, _, _, _, _, _, _, _, _, _, _, _, _, _, _, _, _, _, _, rfl, rfl, ⟨(by first | exact v0 | exact fun _ => rfl), (by first | exact v1 | exact fun _ => rfl), fun _ => rfl, (by first | exact v3 | exact fun _ => rfl), (by first | exact v4 | exact fun _ => rfl), (by first | exact v5 | exact fun _ => rfl), (by first | exact v6 | exact fun _ => rfl), (by first | exact v7 | exact fun _ => rfl), (by first | exact v8 | exact fun _ => rfl), (by first | exact v9 | exact fun _ => rfl)⟩, ⟨fun _ => rfl, c4, c5, c7, c8, c9, c10, c11⟩, ⟨x0, x1, x2, x3, x4⟩⟩
      · -- 3
        obtain rfl : b3 = false := hun
        obtain rfl : b2 = true := hdep _ rfl ⟨2, .data⟩ (by simp) rfl
        obtain rfl := v2 rfl
        refine wpOpIn_step rfl (fun K' hK => ?_)
        go_simp
        refine ⟨trivial, fun _ => by omega, ?_⟩
        refine (CallsIn.inRound l (callsIn_wide.2 (HIX.out _))).mono ?_
        rintro e X' ⟨rfl, rfl⟩
        refine hK _ _ ⟨_, _, _, true, _, _, _, _, _, _, _, _, _, _, _, _, _, _, _, _, _, _, _, rfl, rfl, ⟨(by first | exact v0 | exact fun _ => rfl), (by first | exact v1 | exact fun _ => rfl), (by first | exact v2 | exact fun _ => rfl), fun _ => rfl, (by first | exact v4 | exact fun _ => rfl), (by first | exact v5 | exact fun _ => rfl), (by first | exact v6 | exact fun _ => rfl), (by first | exact v7 | exact fun _ => rfl), (by first | exact v8 | exact fun _ => rfl), (by first | exact v9 | exact fun _ => rfl)⟩, ⟨fun _ => rfl, fun h => ⟨(c4 h).1, rfl⟩, c5, fun h => ⟨(c7 h).1, rfl⟩, c8, c9, c10, c11⟩, ⟨x0, x1, x2, x3, x4⟩⟩
      · -- 4
        obtain rfl : b4 = false := hun
        obtain rfl : b1 = true := hdep _ rfl ⟨1, .data⟩ (by simp) rfl
        obtain rfl : b3 = true := hdep _ rfl ⟨3, .data⟩ (by simp) rfl
        obtain rfl := v1 rfl
        obtain rfl := v3 rfl
        have hj4' : (j : Int) < 4 := by omega
        refine wpOpIn_step rfl (fun K' hK => ?_)
        go_simp
        refine hK _ _ ⟨_, _, _, _, true, _, _, _, _, _, _, _, _, _, _, _, _, _, _, _, _, _, _, rfl, rfl, ⟨(by first | exact v0 | exact fun _ => rfl), (by first | exact v1 | exact fun _ => rfl), (by first | exact v2 | exact fun _ => rfl), (by first | exact v3 | exact fun _ => rfl), fun _ => rfl, (by first | exact v5 | exact fun _ => rfl), (by first | exact v6 | exact fun _ => rfl), (by first | exact v7 | exact fun _ => rfl), (by first | exact v8 | exact fun _ => rfl), (by first | exact v9 | exact fun _ => rfl)⟩, ⟨c3, fun _ => ⟨rfl, rfl⟩, fun _ => rfl, c7, c8, c9, c10, c11⟩, ⟨x0, x1, x2, x3, x4⟩⟩
      · -- 5
        obtain rfl : b5 = false := hun
        obtain rfl : b4 = true := hdep _ rfl ⟨4, .data⟩ (by simp) rfl
        obtain rfl := v4 rfl
        have q8 : b8 = false := by
          cases b8 with
          | false => rfl
          | true => have := (c8 rfl).1; cases this
        obtain rfl := x0 q8
        have hx : W.drew.cell? ⟨gi, j, none⟩ = some vj := hcW
        refine wpOpIn_step rfl (fun K' hK => ?_)
        go_simp
        refine hK _ _ ⟨_, _, _, _, _, true, _, _, _, _, _, _, _, _, _, _, _, _, _, _, _, _, _, rfl, rfl, ⟨(by first | exact v0 | exact fun _ => rfl), (by first | exact v1 | exact fun _ => rfl), (by first | exact v2 | exact fun _ => rfl), (by first | exact v3 | exact fun _ => rfl), (by first | exact v4 | exact fun _ => rfl), fun _ => rfl, (by first | exact v6 | exact fun _ => rfl), (by first | exact v7 | exact fun _ => rfl), (by first | exact v8 | exact fun _ => rfl), (by first | exact v9 | exact fun _ => rfl)⟩, ⟨c3, c4, fun _ => rfl, c7, fun h => ⟨rfl, (c8 h).2⟩, c9, c10, c11⟩, ⟨x0, x1, x2, x3, x4⟩⟩
      · -- 6
        obtain rfl : b6 = false := hun
        refine wpOpIn_step rfl (fun K' hK => ?_)
        go_simp
        refine hK _ _ ⟨_, _, _, _, _, _, true, _, _, _, _, _, _, _, _, _, _, _, _, _, _, _, _, rfl, rfl, ⟨(by first | exact v0 | exact fun _ => rfl), (by first | exact v1 | exact fun _ => rfl), (by first | exact v2 | exact fun _ => rfl), (by first | exact v3 | exact fun _ => rfl), (by first | exact v4 | exact fun _ => rfl), (by first | exact v5 | exact fun _ => rfl), fun _ => rfl, (by first | exact v7 | exact fun _ => rfl), (by first | exact v8 | exact fun _ => rfl), (by first | exact v9 | exact fun _ => rfl)⟩, ⟨c3, c4, c5, fun h => ⟨rfl, (c7 h).2⟩, c8, c9, c10, c11⟩, ⟨x0, x1, x2, x3, x4⟩⟩
      · -- 7
        obtain rfl : b7 = false := hun
        obtain rfl : b6 = true := hdep _ rfl ⟨6, .data⟩ (by simp) rfl
        obtain rfl : b3 = true := hdep _ rfl ⟨3, .chain⟩ (by simp) rfl
        obtain rfl := v6 rfl
        refine wpOpIn_step rfl (fun K' hK => ?_)
        go_simp
        refine ⟨trivial, fun _ => by omega, ?_⟩
        refine (CallsIn.inRound l (callsIn_wide.2 (HSX.out _))).mono ?_
        rintro e X' ⟨rfl, rfl⟩
        refine hK _ _ ⟨_, _, _, _, _, _, _, true, _, _, _, _, _, _, _, _, _, _, _, _, _, _, _, rfl, rfl, ⟨(by first | exact v0 | exact fun _ => rfl), (by first | exact v1 | exact fun _ => rfl), (by first | exact v2 | exact fun _ => rfl), (by first | exact v3 | exact fun _ => rfl), (by first | exact v4 | exact fun _ => rfl), (by first | exact v5 | exact fun _ => rfl), (by first | exact v6 | exact fun _ => rfl), fun _ => rfl, (by first | exact v8 | exact fun _ => rfl), (by first | exact v9 | exact fun _ => rfl)⟩, ⟨c3, c4, c5, fun _ => ⟨rfl, rfl⟩, fun h => ⟨(c8 h).1, rfl⟩, c9, c10, c11⟩, ⟨x0, x1, x2, x3, x4⟩⟩
      · -- 8
        obtain rfl : b8 = false := hun
        obtain rfl : b5 = true := hdep _ rfl ⟨5, .data⟩ (by simp) rfl
        obtain rfl : b7 = true := hdep _ rfl ⟨7, .data⟩ (by simp) rfl
        obtain rfl := v5 rfl
        obtain rfl := v7 rfl
        obtain rfl := x0 rfl
        refine wpOpIn_step rfl (fun K' hK => ?_)
        go_simp
        refine ⟨trivial, fun _ => by omega, ?_⟩
        refine (CallsIn.inRound l (callsIn_wide.2 (HLT.out _))).mono ?_
        rintro e X' ⟨rfl, rfl⟩
        refine hK _ _ ⟨_, _, _, _, _, _, _, _, true, _, _, _, _, _, _, _, _, _, _, _, _, _, _, rfl, rfl, ⟨(by first | exact v0 | exact fun _ => rfl), (by first | exact v1 | exact fun _ => rfl), (by first | exact v2 | exact fun _ => rfl), (by first | exact v3 | exact fun _ => rfl), (by first | exact v4 | exact fun _ => rfl), (by first | exact v5 | exact fun _ => rfl), (by first | exact v6 | exact fun _ => rfl), (by first | exact v7 | exact fun _ => rfl), fun _ => hfv, (by first | exact v9 | exact fun _ => rfl)⟩, ⟨c3, c4, c5, c7, fun _ => ⟨rfl, rfl⟩, fun _ => rfl, c10, c11⟩, ⟨fun h => (by cases h), fun _ _ => rfl, fun h _ => (by have := c9 h; cases this), fun h _ => (by have := c9 (c10 h).1; cases this), fun h => (by have := c9 (c10 (c11 h)).1; cases this)⟩⟩
      · -- 9
        obtain rfl : b9 = false := hun
        obtain rfl : b8 = true := hdep _ rfl ⟨8, .data⟩ (by simp) rfl
        have e39 := v8 rfl
        rw [← hfv] at e39
        subst e39
        have HF := Lib.hid hfv
        have V8 := Lib.hid v8
        clear hfv v8
        obtain rfl := x1 rfl rfl
        refine wpOpIn_step rfl (fun K' hK => ?_)
        go_simp
        refine hK _ _ ⟨_, _, _, _, _, _, _, _, _, true, _, _, _, _, _, _, _, _, _, _, _, _, _, rfl, rfl, ⟨(by first | exact v0 | exact fun _ => rfl), (by first | exact v1 | exact fun _ => rfl), (by first | exact v2 | exact fun _ => rfl), (by first | exact v3 | exact fun _ => rfl), (by first | exact v4 | exact fun _ => rfl), (by first | exact v5 | exact fun _ => rfl), (by first | exact v6 | exact fun _ => rfl), (by first | exact v7 | exact fun _ => rfl), (by first | exact V8.out | exact fun _ => rfl), fun _ => rfl⟩, ⟨c3, c4, c5, c7, c8, fun _ => rfl, fun h => ⟨rfl, (c10 h).2⟩, c11⟩, ⟨fun h => (by cases h), fun _ h => (by cases h), fun _ _ => (by rw [← HF.out]; first | done | rfl), fun h _ => (by have := (c10 h).1; cases this), fun h => (by have := (c10 (c11 h)).1; cases this)⟩⟩
      · -- 10
        obtain rfl : b10 = false := hun
        obtain rfl : b0 = true := hdep _ rfl ⟨0, .data⟩ (by simp) rfl
        obtain rfl : b9 = true := hdep _ rfl ⟨9, .data⟩ (by simp) rfl
        have e31 := v0 rfl
        have e40 := v9 rfl
        subst t31
        subst t40
        obtain rfl := x2 rfl rfl
        have hfo : fv.oneCell' = true := by rw [← hfv]; rfl
        have hd : W.drew.ownsRow (w2.heap.size + 1) IT 1 pv ps.length (ps.map funcV) := HROW.out
        have hcn := cell_one_new (W.drew.alloc (.cells #[vj] WT)) fv IT
        simp only [World.size_alloc] at hcn
        have hws := hB.size
        refine wpOpIn_step rfl (fun K' hK => ?_)
        refine (if_pos (show Region.wanted _ _ = true from rfl)).mpr ?_
        refine wpIn_append_op _ (.tmp 10) (.tmp 19) LTi rfl (w2.heap.size + 1) IT i0 .nilFunc 1 8 Try.underlying121 hi0 hz0 hz1 hz2 rfl (by decide) pv ps.length (ps.map funcV) rfl ((hd.alloc _).alloc _) ⟨W.heap.size + 1, 0, none⟩ 1 1 [fv] rfl rfl hcn (fun u hu => by rw [List.mem_singleton.1 hu]; exact hfo) (by unfold maxLen; omega) (by omega) (by simp only [World.size_alloc]; show _ ≤ W.heap.size + 1 + 1; omega) ?_
        intro v' X' hown' hgr' _
        refine hK _ _ ⟨_, _, _, _, _, _, _, _, _, _, true, _, _, _, _, _, _, _, _, _, _, _, _, rfl, rfl, ⟨(by first | exact v0 | exact fun _ => rfl), (by first | exact v1 | exact fun _ => rfl), (by first | exact v2 | exact fun _ => rfl), (by first | exact v3 | exact fun _ => rfl), (by first | exact v4 | exact fun _ => rfl), (by first | exact v5 | exact fun _ => rfl), (by first | exact v6 | exact fun _ => rfl), (by first | exact v7 | exact fun _ => rfl), (by first | exact v8 | exact fun _ => rfl), (by first | exact v9 | exact fun _ => rfl)⟩, ⟨c3, c4, c5, c7, c8, c9, fun _ => ⟨rfl, rfl⟩, fun _ => rfl⟩, ⟨fun h => (by have := c8 ; exact absurd h (by simp_all)), fun _ h => (by cases h), fun _ h => (by cases h), fun _ _ => (by rw [hS3]; exact ⟨hown', hgr'⟩), fun h => (by have := c11 h; cases this)⟩⟩
      · -- 11
        obtain rfl : b11 = false := hun
        obtain rfl : b10 = true := hdep _ rfl ⟨10, .data⟩ (by simp) rfl
        have h3 := x3 rfl rfl
        have h3' := h3
        rw [hS3] at h3'
        have hbW : Boxed W.drew (w2.heap.size + 1) LTi pv := HBX.out
        have hbX : Boxed X (w2.heap.size + 1) LTi pv := (((hbW.alloc _).alloc _).kept h3'.2 (HBX.out.not_row (by decide) HROW.out))
        obtain ⟨g', cap', rfl⟩ := ownsRow_succ h3'.1
        have hx := hbX.cell
        have hxf := hbX.frozen
        refine wpOpIn_step rfl (fun K' hK => ?_)
        go_simp
        refine hK _ _ ⟨_, _, _, _, _, _, _, _, _, _, _, true, _, _, _, _, _, _, _, _, _, _, _, rfl, rfl, ⟨(by first | exact v0 | exact fun _ => rfl), (by first | exact v1 | exact fun _ => rfl), (by first | exact v2 | exact fun _ => rfl), (by first | exact v3 | exact fun _ => rfl), (by first | exact v4 | exact fun _ => rfl), (by first | exact v5 | exact fun _ => rfl), (by first | exact v6 | exact fun _ => rfl), (by first | exact v7 | exact fun _ => rfl), (by first | exact v8 | exact fun _ => rfl), (by first | exact v9 | exact fun _ => rfl)⟩, ⟨c3, c4, c5, c7, c8, c9, c10, fun _ => rfl⟩, ⟨fun h => (by have h8 := c9 (c10 rfl).1; rw [h] at h8; cases h8), fun _ h => (by have h9 := (c10 rfl).1; rw [h] at h9; cases h9), fun _ h => (by cases h), fun _ h => (by cases h), fun _ => ⟨X, h3, rfl⟩⟩⟩
    case rdone =>
      rintro listed a X ⟨b0, b1, b2, b3, b4, b5, b6, b7, b8, b9, b10, b11, t31, t32, t33, t34, t35, t36, t37, t38, t39, t40, t41, rfl, rfl, -, -, ⟨-, -, -, -, x4⟩⟩ hall
      have q0 : b0 = true := hall 0 _ rfl (fun e he => by simp at he)
      have q1 : b1 = true := hall 1 _ rfl (fun e he => by simp at he)
      have q2 : b2 = true := hall 2 _ rfl (fun e he => by simp at he)
      have q6 : b6 = true := hall 6 _ rfl (fun e he => by simp at he)
      have q3 : b3 = true := hall 3 _ rfl (by
        intro e he _
        simp at he
        rcases he with rfl
        all_goals first | exact q0 | exact q1 | exact q2 | exact q6)
      have q4 : b4 = true := hall 4 _ rfl (by
        intro e he _
        simp at he
        rcases he with rfl | rfl
        all_goals first | exact q0 | exact q1 | exact q2 | exact q6 | exact q3)
      have q5 : b5 = true := hall 5 _ rfl (by
        intro e he _
        simp at he
        rcases he with rfl
        all_goals first | exact q0 | exact q1 | exact q2 | exact q6 | exact q3 | exact q4)
      have q7 : b7 = true := hall 7 _ rfl (by
        intro e he _
        simp at he
        rcases he with rfl | rfl
        all_goals first | exact q0 | exact q1 | exact q2 | exact q6 | exact q3 | exact q4 | exact q5)
      have q8 : b8 = true := hall 8 _ rfl (by
        intro e he _
        simp at he
        rcases he with rfl | rfl | rfl
        all_goals first | exact q0 | exact q1 | exact q2 | exact q6 | exact q3 | exact q4 | exact q5 | exact q7)
      have q9 : b9 = true := hall 9 _ rfl (by
        intro e he _
        simp at he
        rcases he with rfl
        all_goals first | exact q0 | exact q1 | exact q2 | exact q6 | exact q3 | exact q4 | exact q5 | exact q7 | exact q8)
      have q10 : b10 = true := hall 10 _ rfl (by
        intro e he _
        simp at he
        rcases he with rfl | rfl | rfl
        all_goals first | exact q0 | exact q1 | exact q2 | exact q6 | exact q3 | exact q4 | exact q5 | exact q7 | exact q8 | exact q9)
      have q11 : b11 = true := hall 11 _ rfl (by
        intro e he _
        simp at he
        rcases he with rfl | rfl | rfl | rfl | rfl | rfl | rfl | rfl | rfl | rfl | rfl | rfl | rfl
        all_goals first | exact q0 | exact q1 | exact q2 | exact q6 | exact q3 | exact q4 | exact q5 | exact q7 | exact q8 | exact q9 | exact q10)
      obtain ⟨X0, h3, rfl⟩ := x4 q11
      rw [hS3] at h3
      obtain ⟨hown3, hgr3⟩ := h3
      have hws := hB.size
      have hk' : ps.length = pre.length := HK.out
      have hbW : Boxed W.drew (w2.heap.size + 1) LTi pv := HBX.out
      have hnr := HBX.out.not_row (by decide) HROW.out
      have hbX : Boxed X0 (w2.heap.size + 1) LTi pv := ((hbW.alloc _).alloc _).kept hgr3 hnr
      have hb2' : Below (w2.heap.size + 1) W ((W.drew.alloc (.cells #[vj] WT)).alloc (.cells #[fv] IT)) := (((Below.refl _ W).drew.alloc (by show _ ≤ W.heap.size; omega) _).alloc (by simp only [World.size_alloc]; show _ ≤ W.heap.size + 1; omega) _)
      have hrowb : ∀ j, pv.ownBlock = some j → w2.heap.size + 1 ≤ j ∧ ∃ cs r, W.heap[j]? = some (.cells cs IT r) := by
        intro j ej
        rcases HROW.out.2 with ⟨rfl, _⟩ | ⟨g1', cap1', cur1, rfl, hg1, hg2, _⟩
        · cases ej
        · simp [Value.ownBlock] at ej
          subst ej
          exact ⟨hg1, _, _, hg2⟩
      have hbel : Below (w2.heap.size + 1) W (X0.setCell ⟨w2.heap.size + 1, 0, none⟩ t41) := (hb2'.grown hgr3 (by simp only [World.size_alloc]; show _ ≤ W.heap.size + 1 + 1; omega) (fun j ej => (hrowb j ej).1)).setCell (p := ⟨w2.heap.size + 1, 0, none⟩) (Nat.le_refl _) _
      have hko : KeepsOthers W (X0.setCell ⟨w2.heap.size + 1, 0, none⟩ t41) := by
        refine (KeepsOthers.drew W).trans (KeepsOthers.trans ?_ (KeepsOthers.setCell _ _ _))
        refine (KeepsOthers.alloc _ _).trans ((KeepsOthers.alloc _ _).trans (KeepsOthers.of_grownBy hgr3 fun j o ej hj => ?_))
        obtain ⟨hj1, cs, r, hjc⟩ := hrowb j ej
        have hlt : j < W.heap.size := (Array.getElem?_eq_some_iff.1 hjc).1
        rw [Below.heap_alloc _ _ _ (by simp only [World.size_alloc]; show j < W.heap.size + 1; omega), Below.heap_alloc _ _ _ (by show j < W.heap.size; omega)] at hj
        rw [show W.drew.heap[j]? = W.heap[j]? from rfl, hjc] at hj
        cases hj; rfl
      have hgetbox : ∀ (Bx : Nat) (v : Value), Boxed ((W.drew.alloc (.cells #[vj] WT)).alloc (.cells #[fv] IT)) Bx WT v → Bx < W.heap.size + 1 → Boxed (X0.setCell ⟨w2.heap.size + 1, 0, none⟩ t41) Bx WT v := by
        intro Bx v hv hlt
        have hne : Bx ≠ w2.heap.size + 1 := by
          rintro rfl
          have h1 : Boxed ((W.drew.alloc (.cells #[vj] WT)).alloc (.cells #[fv] IT)) (w2.heap.size + 1) LTi pv := (hbW.alloc _).alloc _
          unfold Boxed at h1 hv
          rw [h1] at hv
          cases hv
        have hnb : some Bx ≠ pv.ownBlock := by
          intro e
          obtain ⟨hj1, cs, r, hjc⟩ := hrowb Bx e.symm
          unfold Boxed at hv
          have hlt : Bx < W.heap.size := (Array.getElem?_eq_some_iff.1 hjc).1
          rw [Below.heap_alloc _ _ _ (by simp only [World.size_alloc]; show Bx < W.heap.size + 1; omega), Below.heap_alloc _ _ _ (by show Bx < W.heap.size; omega), show W.drew.heap[Bx]? = W.heap[Bx]? from rfl, hjc] at hv
          cases hv
        exact (hv.kept hgr3 hnb).other hne _
      gi_wp2
      refine ⟨hko.from _, ⟨hbel, hko.from _⟩, ⟨ps ++ [⟨gf, #[.pointer (some ⟨W.heap.size, 0, none⟩)], imgX zs x⟩], by simp [hk'], ?_, ⟨t41, hbX.set _, ?_, trivial⟩, ?_⟩, hB.trans (hbel.mono (by omega))⟩
      · have := HCAT.out
        unfold cat at this ⊢
        simp [this]
      · have := hown3.kept (grownBy_setCell' X0 (w2.heap.size + 1) t41) (.inr (hbX.not_row (by decide) hown3).symm)
        rw [List.map_append, List.length_append]
        rw [← hfv] at this
        exact this
      · intro p hp
        rcases List.mem_append.1 hp with hp | hp
        · obtain ⟨Bx, sv, L, e1, e2, e3, e4, e5⟩ := HPA.out p hp
          refine ⟨Bx, sv, L, e1, e2, hgetbox Bx sv (((show Boxed W.drew Bx WT sv from e3).alloc _).alloc _) ?_, e4, e5⟩
          have := e3.lt
          omega
        · obtain rfl := List.mem_singleton.1 hp
          exact ⟨W.heap.size, vj, _, rfl, by omega, hgetbox W.heap.size vj ((Boxed.new W.drew WT vj).alloc _) (by omega), HGV.out, HIW.out⟩
  case done =>
    rintro D W hD ⟨⟨ps, hps, hcat, ⟨pv, hbx, hrow, _⟩, hpa⟩, hB⟩ hK
    have hWs := hB.size
    have hDlt : D < W.heap.size := (Array.getElem?_eq_some_iff.1 hK).1
    obtain ⟨a, cap0, b, rfl, ha, hb, hc⟩ := owns_slice hrow (by omega)
    have hx := hbx.cell
    have hBW : Below w2.heap.size w2 W := hBv.trans (hB.mono (by omega))
    have hlet : letL (putX zs L) = true := letL_putX zs L HZ.out
    have hcl : (cat ps).length ≤ 60 * 60 := by
      rw [hcat]
      refine Nat.le_trans (putX_len zs L HZ.out) (Nat.mul_le_mul (by rw [HKL.out]; exact hk60) (Nat.le_refl _))
    have hrd := reduced_in (n - 1) (by omega) a b 0 cap0 ps W ha hb
      (fun i h => by rw [Nat.zero_add, hc i (by simpa using h)]; simp [funcV])
      (fun p hp => by
        obtain ⟨B, sv, Lp, e1, e2, e3, e4, e5⟩ := hpa p hp
        refine ⟨?_, e4.2⟩
        have hlb : p.lb = #[.pointer (some ⟨B, 0, none⟩)] := e1
        rw [hlb]
        exact e4.1 W B W.heap.size e3.lt (Nat.le_refl _) e3.cell ((e5.below hB).mono (by omega)))
      (by omega) (by rw [hps, HKL.out]; omega)
    rw [hcat] at hrd
    have HRD := Lib.hid hrd
    have HK := Lib.hid hK
    clear hrd hcat hpa hrow hbx hc ha hK hps
    gi_wp2_with fail
    refine ⟨trivial, fun _ => by omega, ?_⟩
    refine HRD.out.mono ?_
    rintro e w4 ⟨g4, m, cap4, rfl, hm, hown, hb4⟩
    have hK4 : w4.heap[D]? = some (.deferred (some [])) := (hb4.block _ hDlt).trans HK.out
    have Hm := Lib.hid hm
    have HO := Lib.hid hown
    have HK4 := Lib.hid hK4
    clear hm hown hK4
    gi_wp2
    refine ⟨by simp, .inl ⟨_, _, rfl, run_takeDeferred HK4.out, ?_⟩⟩
    refine ⟨.slice (some ⟨g4, 0, none⟩) m cap4, by simp [results, Try.f133, go_sem], g4, m, cap4, rfl, Hm.out, ownsRow_base (ownsRow_putObj HO.out _ HK4.out rfl) (by omega), ?_⟩
    exact (hBW.trans (hb4.mono (by omega))).trans (belowK_b (w := w2) (Nat.le_refl _) w4 D _ _ (by omega) HK4.out rfl rfl)

end Go.Proofs.Ytaaeiogdhmiaaaa

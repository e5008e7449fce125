/- What the laws' proofs stand on, part 3 of several. -/
import Derived.ChangeSame
import Derived.ChangeOld
import Derived.Sort.QuietIn
import Derived.Test.YtaaeiogdhmiaaaaBwa
import Derived.Test.YtaaeiogdhmiaaaaBwb

/- The contract of the program's 'WordPut'. -/

namespace Go.Proofs.Ytaaeiogdhmiaaaa
open Go.RowKit Go.Shelf

attribute [local go_sem] Oper.semAt_some

abbrev FV : Nat := 139

/-- What a round keeps, where the iterator is that of a word. -/
def KeepP (n₀ N : Nat) (W W' : World) : Prop := Below n₀ W W' ∧ KeepsFrom N W W'

/-- The loop's law at the letters of a word, for bodies that write where they will behind what was there. -/
theorem range_values {n : Nat} {g : Operand} {p : Tmp} {assign body : Code} {Q : Exit → Act → World → Prop} {a : Act} {w : World} {Bs : Nat} (hn : 14 ≤ n)
    (hg : a.eval g = .func (.func FV) #[] #[.pointer (some ⟨Bs, 0, none⟩)])
    {n₀ : Nat} {L : List UInt8} {sv : Value} (hBs : Bs < w.heap.size) (hc : w.cell? ⟨Bs, 0, none⟩ = some sv) (hw : IsWord n₀ w sv L) (hn₀ : n₀ ≤ w.heap.size)
    (I : List UInt8 → World → Prop) (hI : OwnFrom w.heap.size I) (h0 : I [] w) (a₁ : UInt8 → Act)
    (hassign : ∀ (l : Nat) (x : UInt8) (W : World) (K : Act → World → Prop), K (a₁ x) W →
      assign.wpIn (Fence.wide.inRound l) (n - 1 - 1) Try.prog (Exit.then K (fun _ _ _ => False)) { tmps := (#[p].zip (encB x)).foldl (fun t (q, v) => t.setIfInBounds q v) a.tmps, defers := [] } W)
    (hbody : ∀ (l : Nat) (pre : List UInt8) (x : UInt8) (W : World), I pre W → pre ++ [x] <+: L →
      body.wpIn (Fence.wide.inRound l) (n - 1 - 1) Try.prog (goesOn w.heap.size (KeepP n₀) I (pre ++ [x]) W) (a₁ x) W)
    (hdone : ∀ (D : Nat) (W : World), w.heap.size ≤ D → I L W → W.heap[D]? = some (.deferred (some [])) → Q .normal { a with defers := { target := .collected D, args := #[] } :: a.defers } W) :
    (Code.rangeFunc g #[p] assign body).wpIn Fence.wide n Try.prog Q a w :=
  range_law (by omega) hg (enters_of Try.func139 (by kernel_rfl) rfl) (fun _ => rfl) (KeepP n₀) (fun h k => ⟨h.1.trans k.1, h.2.trans k.2⟩)
    (fun N W l o o' hl hwl hW ho hwk => ⟨belowK_b hn₀ W l o o' hwl hW ho hwk, KeepsFrom.of_grownBy (grownBy_putObj' W l o') (fun j e => by cases e; exact hl)⟩)
    (fun h => ⟨h.1, keepsFrom_mono h.2 (by omega)⟩)
    (fun l J V hV hlt hJ hY h0 => (values1_in (n - 1) (by omega) l Bs n₀ L sv J (fun _ _ => False) (fun pre x W1 hj hl => (hY pre x W1 hj hl).mono (fun _ _ ⟨a, b, c⟩ => .inl ⟨a, b, c.1⟩)) V
      ((hV.cell (p := ⟨Bs, 0, none⟩) hBs).trans hc) (hw.below (hV.mono hn₀)) h0).mono (by
        rintro e W' ⟨hv, ⟨ys, rfl, hJ'⟩ | ⟨_, _, hf⟩⟩
        · exact ⟨hv, hJ'⟩
        · exact hf.elim)) I hI h0 a₁ hassign hbody hdone

/-- A part's box, and what it gives. -/
def PartAt (N : Nat) (w W : World) (p : Part) : Prop :=
  ∃ B sv L, p.lb = #[.pointer (some ⟨B, 0, none⟩)] ∧ N ≤ B ∧ Boxed W B WT sv ∧ Gives ⟨p.gf, sv, L, p.xs⟩ ∧ IsWord N w sv L
theorem PartAt.own (N : Nat) (w : World) (p : Part) : Own (fun (_ : Unit) W => PartAt N w W p) := by
  rintro s X Y row ⟨B, sv, L, h1, h2, h3, h4⟩ hg hrow
  exact ⟨B, sv, L, h1, h2, boxed_own B WT (fun _ : Unit => sv) () X Y row h3 hg hrow, h4⟩

def funcV (p : Part) : Value := .func (.func p.gf) #[] p.lb
/-- The parts that the loop has gathered. -/
def Gathered (N BP : Nat) (w : World) (img : UInt8 → List UInt8) (pre : List UInt8) (W : World) : Prop :=
  ∃ ps : List Part, ps.length = pre.length ∧ cat ps = (pre.map img).flatten ∧ (∃ v, Boxed W BP 121 v ∧ W.ownsRow N IT 1 v ps.length (ps.map funcV) ∧ True) ∧ ∀ p ∈ ps, PartAt N w W p
theorem Gathered.own (N BP : Nat) (w : World) (img : UInt8 → List UInt8) : Own (Gathered N BP w img) := by
  rintro s X Y row ⟨ps, h1, h2, h3, h4⟩ hg hrow
  exact ⟨ps, h1, h2, holdsRow_own N BP _ IT 1 (fun _ : Unit => ps.length) (fun _ => ps.map funcV) (fun _ _ => True) () X Y row h3 hg hrow, fun p hp => PartAt.own N w p () X Y row (h4 p hp) hg hrow⟩

/-- The letters of a letter's image, as its iterator gives them. -/
def imgX (zs : List ByteArray) (x : UInt8) : List UInt8 := if 97 ≤ x.toNat then (zs.getD (idxB x) ByteArray.empty).data.toList else (zs.getD (idxB x) ByteArray.empty).data.toList.reverse.map invB
/-- All images, one behind the other. -/
def putX (zs : List ByteArray) (L : List UInt8) : List UInt8 := (L.map (imgX zs)).flatten
theorem imgX_len (zs : List ByteArray) (hz : ∀ z ∈ zs, wordB z.data.toList = true) (x : UInt8) : (imgX zs x).length ≤ 60 := by
  have hz' : (zs.getD (idxB x) ByteArray.empty).data.toList.length ≤ 60 := by
    rw [List.getD_eq_getElem?_getD]
    cases h : zs[idxB x]? with
    | none => simp
    | some z => exact ((wordB_iff _).1 (hz z (List.mem_of_getElem? h))).1
  unfold imgX
  split
  · exact hz'
  · rw [List.length_map, List.length_reverse]; exact hz'
theorem putX_len (zs : List ByteArray) (L : List UInt8) (hz : ∀ z ∈ zs, wordB z.data.toList = true) : (putX zs L).length ≤ L.length * 60 := by
  unfold putX
  induction L with
  | nil => simp
  | cons x r ih =>
    rw [List.map_cons, List.flatten_cons, List.length_append, List.length_cons]
    have := imgX_len zs hz x
    omega
theorem imgX_eq (zs : List ByteArray) (hz : ∀ z ∈ zs, wordB z.data.toList = true) (x : UInt8) : imgX zs x = imgL zs x ∧ letL (imgL zs x) = true := by
  have hl : letL (zs.getD (idxB x) ByteArray.empty).data.toList = true := by
    rw [List.getD_eq_getElem?_getD]
    cases h : zs[idxB x]? with
    | none => rfl
    | some z => exact ((wordB_iff _).1 (hz z (List.mem_of_getElem? h))).2.1
  unfold imgX imgL
  by_cases h : 97 ≤ x.toNat
  · rw [if_pos h, if_neg (by omega)]; exact ⟨rfl, hl⟩
  · rw [if_neg h, if_pos (by omega)]; exact ⟨inv_back _ hl, letL_back _ hl⟩
theorem putX_eq (zs : List ByteArray) (L : List UInt8) (hz : ∀ z ∈ zs, wordB z.data.toList = true) : putX zs L = putL zs L ∧ letL (putL zs L) = true := by
  unfold putX putL
  induction L with
  | nil => exact ⟨rfl, rfl⟩
  | cons x r ih =>
    obtain ⟨h1, h2⟩ := imgX_eq zs hz x
    rw [List.map_cons, List.map_cons, List.flatten_cons, List.flatten_cons, h1, ih.1, letL_append, h2, ih.2]
    exact ⟨rfl, rfl⟩
theorem letL_putX (zs : List ByteArray) (L : List UInt8) (hz : ∀ z ∈ zs, wordB z.data.toList = true) : letL (putX zs L) = true := by
  rw [(putX_eq zs L hz).1]; exact (putX_eq zs L hz).2
abbrev LTi : TypeId := 121

theorem infoSeqI : (Try.prog.info? IT).map (fun i => (i.zero, i.size, i.bytes)) = some (some .nilFunc, 1, 8) := by kernel_rfl

/-- An append in whatever place of a region. -/
theorem wpIn_append_op {F : Fence} {n : Nat} {P : Program} (w : World) {o : Oper} {a : Act} {K : Act → World → Prop} {Q : Exit → Act → World → Prop}
    (s x : Operand) (t : TypeId) (hop : o.op = Op.call { callee := Callee.builtin Builtin.append, args := #[s, x], argTypes := #[t, t] })
    (base : Nat) (e : TypeId) (i : TypeInfo) (z : Value) (size bytes : Nat) (h1 : P.underlying t = some (.slice e)) (h2 : P.info? e = some i) (h3 : i.zero = some z) (h4 : i.size = size) (h5 : i.bytes = bytes) (h6 : z.cells.size = size) (h7 : 0 < size)
    (v : Value) (k : Nat) (xs : List Value) (hs : a.eval s = v) (hown : w.ownsRow base e size v k xs) (ad : Addr) (m c : Nat) (news : List Value) (hx : a.eval x = .slice (some ad) m c) (hn : news.length = m * size)
    (hc : ∀ j u, news[j]? = some u → w.cell? (ad.add j) = some u) (h1c : ∀ u ∈ news, u.oneCell' = true) (b1 : k + m ≤ maxLen) (b2 : (k + m) * bytes ≤ 140737488355328) (b3 : base ≤ w.heap.size)
    (hK : ∀ v' w', w'.ownsRow base e size v' (k + m) (xs ++ news) → w.grownBy w' v.ownBlock → True → K (a.put o.dst v') w') : o.wpIn F n P a w K Q := by
  obtain ⟨v', w', hrun, r1, r2, _⟩ := run_append_own (P := P) w base t o.type e i z size bytes h1 h2 h3 h4 h5 h6 h7 v k xs hown ad m c news hn hc h1c b1 b2 b3
  unfold Oper.wpIn
  refine ⟨by simp [Oper.about, hop, resolve, Target.leads, Sem.run_pure], ?_⟩
  rw [Oper.semAt_plain F _ _ (by rw [hop]; intro c hc'; cases hc')]
  simp [execOp, hop, resolve, invoke, builtin, hs, hx, hrun, Result.andThen]
  exact hK v' w' r1 r2 trivial

theorem wordsOf_four (g : Nat) (zs : List ByteArray) (w : World) (hl : zs.length = 4) (hg : g < w.heap.size) (hc : ∀ i (h : i < zs.length), w.cell? ⟨g, i, none⟩ = some (.string zs[i])) (hf : ∀ z ∈ zs, wordB z.data.toList = true) (cap : Nat) :
    Calls Try.prog 123 #[.slice (some ⟨g, 0, none⟩) 4 cap] w fun e w' =>
      ∃ (gi : Nat) (vals : List Value), e = .returned (.tuple #[.slice (some ⟨gi, 0, none⟩) 4 4, .bool true]) ∧ gi < w'.heap.size ∧ (∀ j (h : j < zs.length), ∃ v, w'.cell? ⟨gi, j, none⟩ = some v ∧ vals[j]? = some v ∧ WordAt w.heap.size w' v zs[j].data.toList) ∧ Below w.heap.size w w' := by
  refine (wordsOf_any (some ⟨g, 0, none⟩) g 0 cap 4 zs w hl (by decide) (fun _ => rfl) hg (fun i h => by rw [Nat.zero_add]; exact hc i h) (fun s hs => by have := ((wordB_iff _).1 (hf s hs)).1; simp at this; unfold maxLen; omega)).mono ?_
  rintro e w' ⟨⟨_, s, hs, hb⟩ | ⟨gi, vals, rfl, _, hown, hv⟩, hB⟩
  · rw [hf s hs] at hb; cases hb
  · have hlen := hown.1
    refine ⟨gi, vals, rfl, (ownsRow_cap hown).2.2.2, fun j h => ?_, hB⟩
    have hj : j < vals.length := by omega
    exact ⟨vals[j], by rw [hown.cellAt j (by omega)]; exact List.getElem?_eq_getElem hj, List.getElem?_eq_getElem hj, hv j h _ (List.getElem?_eq_getElem hj)⟩

theorem owns_slice {W : World} {base : Nat} {e : TypeId} {v : Value} {n : Nat} {xs : List Value} (h : W.ownsRow base e 1 v n xs) (h0 : 0 < W.heap.size) :
    ∃ a cap b, v = .slice a n cap ∧ (0 < n → a = some ⟨b, 0, none⟩) ∧ b < W.heap.size ∧ ∀ i (h : i < xs.length), W.cell? ⟨b, i, none⟩ = some xs[i] := by
  have hl := h.1
  rw [Nat.mul_one] at hl
  have hc := fun g cap (e : v = .slice (some ⟨g, 0, none⟩) n cap) => e
  rcases h.2 with ⟨rfl, e⟩ | ⟨g, cap, cur, rfl, e2⟩
  · have e0 : n = 0 := e
    subst e0
    exact ⟨none, 0, 0, rfl, fun h => absurd h (Nat.lt_irrefl _), h0, fun i hi => absurd hi (by omega)⟩
  · refine ⟨_, cap, g, rfl, fun _ => rfl, (ownsRow_cap h).2.2.2, fun i hi => ?_⟩
    rw [h.cellAt i (by omega)]
    exact List.getElem?_eq_getElem hi

/-- Four words in memory. -/
def FourAt (gi : Nat) (lo : Nat) (w : World) (zs : List ByteArray) : Prop :=
  gi < w.heap.size ∧ ∀ j (h : j < zs.length), ∃ v, w.cell? ⟨gi, j, none⟩ = some v ∧ WordAt lo w v zs[j].data.toList
theorem FourAt.below {gi lo : Nat} {w w' : World} {zs : List ByteArray} (h : FourAt gi lo w zs) (hb : Below w.heap.size w w') : FourAt gi lo w' zs :=
  ⟨Nat.lt_of_lt_of_le h.1 hb.size, fun j hj => by
    obtain ⟨v, h1, h2⟩ := h.2 j hj
    exact ⟨v, (hb.cell (p := ⟨gi, j, none⟩) h.1).trans h1, h2.below hb⟩⟩

set_option maxRecDepth 100000 in
set_option maxHeartbeats 4000000 in
theorem wordPut_in (n : Nat) (hn : 40 ≤ n) (g1 k cap1 gi cg lo : Nat) (L : List UInt8) (zs : List ByteArray) (w2 : World) (hk : L.length = k) (hk60 : k ≤ 60) (hL : letL L = true)
    (hw1 : IsWord w2.heap.size w2 (.slice (some ⟨g1, 0, none⟩) k cap1) L) (hz4 : zs.length = 4) (hz : ∀ z ∈ zs, wordB z.data.toList = true) (hvals : FourAt gi lo w2 zs) :
    CallsIn Fence.wide n Try.prog 133 #[.slice (some ⟨g1, 0, none⟩) k cap1, .slice (some ⟨gi, 0, none⟩) 4 cg] w2 fun e w' =>
      ∃ g m cap, e = .returned (.slice (some ⟨g, 0, none⟩) m cap) ∧ (redX [] (L.map (imgX zs)).flatten).length = m ∧ w'.ownsRow w2.heap.size 77 1 (.slice (some ⟨g, 0, none⟩) m cap) m (bytesV (redX [] (L.map (imgX zs)).flatten)) ∧ Below w2.heap.size w2 w' := by
  have hgi := hvals.1
  have H2 := Lib.hid hL
  have HZ := Lib.hid hz
  have HV := Lib.hid hvals.2
  have HKL := Lib.hid hk
  have hw1 := Lib.hid hw1
  clear hL hz hvals hk
  refine callsIn_of_wp_marks Try.func133 rfl trivial ?_ rfl
  simp only [Try.ntmps133, List.size_toArray, List.length_cons, List.length_nil, Nat.reduceAdd, Nat.reduceSub, Array.replicate_succ, Array.replicate_zero, List.push_toArray, List.append_toArray, List.nil_append, List.cons_append]
  gi_wp2_with fail
  refine ⟨trivial, fun _ => by omega, ?_⟩
  refine (callsIn_wide.2 (letters_fwd _ _ _ 1 _ (by decide))).mono ?_
  rintro e w3 ⟨rfl, rfl⟩
  have h8 := ((Boxed.new w2 99 (.slice (some ⟨gi, 0, none⟩) 4 cg)).alloc (.cells #[.slice none 0 0] LTi)).alloc (.cells #[.slice (some ⟨g1, 0, none⟩) k cap1] WT)
  have h9 := (Boxed.new (w2.alloc (.cells #[.slice (some ⟨gi, 0, none⟩) 4 cg] 99)) LTi (.slice none 0 0)).alloc (.cells #[.slice (some ⟨g1, 0, none⟩) k cap1] WT)
  have hb := Boxed.new ((w2.alloc (.cells #[.slice (some ⟨gi, 0, none⟩) 4 cg] 99)).alloc (.cells #[.slice none 0 0] LTi)) WT (.slice (some ⟨g1, 0, none⟩) k cap1)
  have hBv : Below w2.heap.size w2 (((w2.alloc (.cells #[.slice (some ⟨gi, 0, none⟩) 4 cg] 99)).alloc (.cells #[.slice none 0 0] LTi)).alloc (.cells #[.slice (some ⟨g1, 0, none⟩) k cap1] WT)) := (((Below.refl _ w2).alloc (Nat.le_refl _) _).alloc (by simp) _).alloc (by simp; omega) _
  have hsz : (((w2.alloc (.cells #[.slice (some ⟨gi, 0, none⟩) 4 cg] 99)).alloc (.cells #[.slice none 0 0] LTi)).alloc (.cells #[.slice (some ⟨g1, 0, none⟩) k cap1] WT)).heap.size = w2.heap.size + 3 := by simp
  simp only [World.size_alloc] at h9 hb ⊢
  generalize (((w2.alloc (.cells #[.slice (some ⟨gi, 0, none⟩) 4 cg] 99)).alloc (.cells #[.slice none 0 0] LTi)).alloc (.cells #[.slice (some ⟨g1, 0, none⟩) k cap1] WT)) = V at h8 h9 hb hBv hsz ⊢
  have hwV : IsWord w2.heap.size V (.slice (some ⟨g1, 0, none⟩) k cap1) L := hw1.out.below hBv
  have HB8 := Lib.hid h8
  have HB9 := Lib.hid h9
  have HBB := Lib.hid hb
  have HWV := Lib.hid hwV
  clear h8 h9 hb hwV
  gi_wp2_with fail
  refine range_values (by omega) (Bs := w2.heap.size + 1 + 1) rfl (n₀ := w2.heap.size + 1) (L := L) (by omega) HBB.out.cell (HWV.out.mono (by omega)) (by omega)
    (fun pre X => Gathered (w2.heap.size + 1) (w2.heap.size + 1) V (imgX zs) pre X ∧ Below (w2.heap.size + 1) V X)
    (OwnFrom.and (Own.from (Gathered.own _ _ _ _) _) (ownFrom_below (by omega) (by omega)))
    ⟨⟨[], rfl, rfl, ⟨_, HB9.out, ⟨rfl, .inl ⟨rfl, rfl⟩⟩, trivial⟩, fun p h => by cases h⟩, Below.refl _ _⟩
    (fun x => { tmps := #[.slice (some ⟨g1, 0, none⟩) k cap1, .slice (some ⟨gi, 0, none⟩) 4 cg, undef, .pointer (some ⟨w2.heap.size, 0, none⟩), .slice none 0 0, .pointer (some ⟨w2.heap.size + 1, 0, none⟩), .int .u8 (x.toNat : Int), .slice (some ⟨g1, 0, none⟩) k cap1, .func (.func FV) #[] #[.pointer (some ⟨w2.heap.size + 1 + 1, 0, none⟩)], .int .u8 (x.toNat : Int), undef, undef, undef, undef, undef, undef, undef, undef, undef, undef, undef, undef, undef], defers := [] }) ?assign ?body ?done
  case assign =>
    intro l x W K hK
    gi_wp2
    exact hK
  case body =>
    rintro l pre x W ⟨⟨ps, hps, hcat, ⟨pv, hbx, hrow, _⟩, hpa⟩, hB⟩ hpre
    have hlet : letB x = true := List.all_eq_true.1 H2.out x (prefix_mem hpre)
    have hplen := prefix_len hpre
    rw [HKL.out] at hplen
    obtain ⟨j, hj⟩ : ∃ j, idxB x = j := ⟨_, rfl⟩
    have hj4 : j < 4 := by rw [← hj]; exact idxB_lt _ hlet
    obtain ⟨vj, hcv, hWA⟩ := HV.out j (by omega)
    have hcW : W.cell? ⟨gi, j, none⟩ = some vj := ((hB.cell (p := ⟨gi, j, none⟩) (by show gi < _; omega)).trans (hBv.cell (p := ⟨gi, j, none⟩) hgi)).trans hcv
    have hc8 : W.cell? ⟨w2.heap.size, 0, none⟩ = some (.slice (some ⟨gi, 0, none⟩) 4 cg) := (hB.cell (p := ⟨w2.heap.size, 0, none⟩) (by show w2.heap.size < _; omega)).trans HB8.out.cell
    have hc9 := hbx.cell
    have hIW : IsWord (w2.heap.size + 1) V vj (zs[j]'(by omega)).data.toList := (hWA.isWord.below hBv).mono (by omega)
    obtain ⟨gj, cj, rfl⟩ := hWA.slice
    obtain ⟨u, hu⟩ : ∃ u, sgnB x = u := ⟨_, rfl⟩
    obtain ⟨vj, hvj⟩ : ∃ v, Value.slice (some ⟨gj, 0, none⟩) (zs[j]'(by omega)).data.toList.length cj = v := ⟨_, rfl⟩
    obtain ⟨gf, hlt, hgv⟩ : ∃ gf : Nat, (∀ X : World, Calls Try.prog 103 #[vj, .int .i64 u] X fun e X' => e = .returned (.func (.func gf) #[] #[.pointer (some ⟨X.heap.size, 0, none⟩)]) ∧ X' = X.alloc (.cells #[vj] WT)) ∧ Gives ⟨gf, vj, (zs[j]'(by omega)).data.toList, imgX zs x⟩ := by
      have hgd : zs.getD (idxB x) ByteArray.empty = zs[j]'(by omega) := by rw [hj, List.getD_eq_getElem?_getD, List.getElem?_eq_getElem (by omega)]; rfl
      rw [← hvj, ← hu]
      by_cases h97 : 97 ≤ x.toNat
      · refine ⟨FV, fun X => letters_fwd _ _ _ _ X (by unfold sgnB; rw [if_pos h97]; decide), ?_⟩
        have : imgX zs x = (zs[j]'(by omega)).data.toList := by unfold imgX; rw [if_pos h97, hgd]
        rw [this]; exact gives_fwd _ _
      · refine ⟨137, fun X => letters_bwd _ _ _ _ X (by unfold sgnB; rw [if_neg h97]; decide), ?_⟩
        have : imgX zs x = (zs[j]'(by omega)).data.toList.reverse.map invB := by unfold imgX; rw [if_neg h97, hgd]
        rw [this]; exact gives_bwd _ _
    rw [hvj] at hcW hIW
    have hix : ∀ X, Calls Try.prog 107 #[.int .u8 (x.toNat : Int)] X fun e X' => e = .returned (.int .i64 (j : Int)) ∧ X' = X := fun X => by rw [← hj]; exact iIndex_any x X hlet
    have hsx : ∀ X, Calls Try.prog 83 #[.int .u8 (x.toNat : Int)] X fun e X' => e = .returned (.int .i64 u) ∧ X' = X := fun X => by rw [← hu]; exact iSign_any x X hlet
    have HIX := Lib.hid hix
    have HSX := Lib.hid hsx
    have HLT := Lib.hid hlt
    have HGV := Lib.hid hgv
    have HIW := Lib.hid hIW
    have HPA := Lib.hid hpa
    have HROW := Lib.hid hrow
    have HBX := Lib.hid hbx
    have hpl : ps.length ≤ 60 := by omega
    have HK := Lib.hid hps
    have HCAT := Lib.hid hcat
    clear hix hsx hlt hgv hIW hpa hrow hbx hcv hWA hpre hps hcat
    gi_wp2
    refine wpIn_region_any (by kernel_rfl) ?_
    change wpAnyIn _ _ _ _ _ _ _ _ _ (World.drew _)
    obtain ⟨i0, hi0, hz0, hz1, hz2⟩ := info_parts infoSeqI
    obtain ⟨fv, hfv⟩ : ∃ fv, Value.func (.func gf) #[] #[.pointer (some ⟨W.heap.size, 0, none⟩)] = fv := ⟨_, rfl⟩
    obtain ⟨S3, hS3⟩ : ∃ S3 : Value → World → Prop, S3 = fun v X => X.ownsRow (w2.heap.size + 1) IT 1 v (ps.length + 1) (ps.map funcV ++ [fv]) ∧ ((W.drew.alloc (.cells #[vj] WT)).alloc (.cells #[fv] IT)).grownBy X pv.ownBlock := ⟨_, rfl⟩
    refine wpAnyIn_inv (fun listed a X => ∃ (b0 b1 b2 b3 b4 b5 b6 b7 b8 b9 b10 b11 : Bool) (t31 t32 t33 t34 t35 t36 t37 t38 t39 t40 t41 : Value), listed = #[b0, b1, b2, b3, b4, b5, b6, b7, b8, b9, b10, b11] ∧ a = { tmps := #[.slice (some ⟨g1, 0, none⟩) k cap1, .slice (some ⟨gi, 0, none⟩) 4 cg, undef, .pointer (some ⟨w2.heap.size, 0, none⟩), .slice none 0 0, .pointer (some ⟨w2.heap.size + 1, 0, none⟩), .int .u8 (x.toNat : Int), .slice (some ⟨g1, 0, none⟩) k cap1, .func (.func FV) #[] #[.pointer (some ⟨w2.heap.size + 1 + 1, 0, none⟩)], .int .u8 (x.toNat : Int), t31, t32, t33, t34, t35, t36, t37, t38, t39, t40, t41, undef, undef], defers := [] } ∧
      ((b0 = true → t31 = pv) ∧ (b1 = true → t32 = .slice (some ⟨gi, 0, none⟩) 4 cg) ∧ (b2 = true → t33 = .int .u8 (x.toNat : Int)) ∧ (b3 = true → t34 = .int .i64 (j : Int)) ∧ (b4 = true → t35 = .pointer (some ⟨gi, j, none⟩)) ∧ (b5 = true → t36 = vj) ∧ (b6 = true → t37 = .int .u8 (x.toNat : Int)) ∧ (b7 = true → t38 = .int .i64 u) ∧ (b8 = true → t39 = fv) ∧ (b9 = true → t40 = .slice (some ⟨W.heap.size + 1, 0, none⟩) 1 1)) ∧
      ((b3 = true → b2 = true) ∧ (b4 = true → b1 = true ∧ b3 = true) ∧ (b5 = true → b4 = true) ∧ (b7 = true → b6 = true ∧ b3 = true) ∧ (b8 = true → b5 = true ∧ b7 = true) ∧ (b9 = true → b8 = true) ∧ (b10 = true → b9 = true ∧ b0 = true) ∧ (b11 = true → b10 = true)) ∧
      ((b8 = false → X = W.drew) ∧ (b8 = true → b9 = false → X = W.drew.alloc (.cells #[vj] WT)) ∧ (b9 = true → b10 = false → X = (W.drew.alloc (.cells #[vj] WT)).alloc (.cells #[fv] IT)) ∧ (b10 = true → b11 = false → S3 t41 X) ∧ (b11 = true → ∃ X0, S3 t41 X0 ∧ X = X0.setCell ⟨w2.heap.size + 1, 0, none⟩ t41))) ?step ?rdone _ _ _ _ (by decide) ?init
    case init =>
      exact ⟨false, false, false, false, false, false, false, false, false, false, false, false, undef, undef, undef, undef, undef, undef, undef, undef, undef, undef, undef, rfl, rfl, by simp, by simp, by simp⟩
    case step =>
      rintro listed a X i ⟨b0, b1, b2, b3, b4, b5, b6, b7, b8, b9, b10, b11, t31, t32, t33, t34, t35, t36, t37, t38, t39, t40, t41, rfl, rfl, ⟨v0, v1, v2, v3, v4, v5, v6, v7, v8, v9⟩, ⟨c3, c4, c5, c7, c8, c9, c10, c11⟩, ⟨x0, x1, x2, x3, x4⟩⟩ hun hdep hi
      have hi' : i = 0 ∨ i = 1 ∨ i = 2 ∨ i = 3 ∨ i = 4 ∨ i = 5 ∨ i = 6 ∨ i = 7 ∨ i = 8 ∨ i = 9 ∨ i = 10 ∨ i = 11 := by
        have : i < 12 := hi
        omega
      rcases hi' with rfl | rfl | rfl | rfl | rfl | rfl | rfl | rfl | rfl | rfl | rfl | rfl
      · -- 0
        obtain rfl : b0 = false := hun
        have hx : X.cell? ⟨w2.heap.size + 1, 0, none⟩ = some pv := by
          cases b8 with
          | false => rw [x0 rfl]; exact hc9
          | true =>
            cases b9 with
            | false => rw [x1 rfl rfl]; exact cell_past (cell_drawn hc9) _
            | true =>
              cases b10 with
              | false => rw [x2 rfl rfl]; exact cell_past (cell_past (cell_drawn hc9) _) _
              | true => have := (c10 rfl).2; cases this
        refine wpOpIn_step rfl (fun K' hK => ?_)
        go_simp
        refine hK _ _ ⟨true, _, _, _, _, _, _, _, _, _, _, _, _, _, _, _, _, _, _, _, _, _, _, rfl, rfl, ⟨fun _ => rfl, (by first | exact v1 | exact fun _ => rfl), (by first | exact v2 | exact fun _ => rfl), (by first | exact v3 | exact fun _ => rfl), (by first | exact v4 | exact fun _ => rfl), (by first | exact v5 | exact fun _ => rfl), (by first | exact v6 | exact fun _ => rfl), (by first | exact v7 | exact fun _ => rfl), (by first | exact v8 | exact fun _ => rfl), (by first | exact v9 | exact fun _ => rfl)⟩, ⟨c3, c4, c5, c7, c8, c9, fun h => ⟨(c10 h).1, rfl⟩, c11⟩, ⟨x0, x1, x2, x3, x4⟩⟩
      · -- 1
        obtain rfl : b1 = false := hun
        have q8 : b8 = false := by
          cases b8 with
          | false => rfl
          | true => have := (c4 (c5 (c8 rfl).1)).1; cases this
        obtain rfl := x0 q8
        have hx : W.drew.cell? ⟨w2.heap.size, 0, none⟩ = some (.slice (some ⟨gi, 0, none⟩) 4 cg) := hc8
        refine wpOpIn_step rfl (fun K' hK => ?_)
        go_simp
        refine hK _ _ ⟨_, true, _, _, _, _, _, _, _, _, _, _, _, _, _, _, _, _, _, _, _, _, _, rfl, rfl, ⟨(by first | exact v0 | exact fun _ => rfl), fun _ => rfl, (by first | exact v2 | exact fun _ => rfl), (by first | exact v3 | exact fun _ => rfl), (by first | exact v4 | exact fun _ => rfl), (by first | exact v5 | exact fun _ => rfl), (by first | exact v6 | exact fun _ => rfl), (by first | exact v7 | exact fun _ => rfl), (by first | exact v8 | exact fun _ => rfl), (by first | exact v9 | exact fun _ => rfl)⟩, ⟨c3, fun h => ⟨rfl, (c4 h).2⟩, c5, c7, c8, c9, c10, c11⟩, ⟨x0, x1, x2, x3, x4⟩⟩
      · -- 2
        obtain rfl : b2 = false := hun
        refine wpOpIn_step rfl (fun K' hK => ?_)
        go_simp
        refine hK _ _ ⟨_, _, true, _, _, _, _, _, _, _, _, _, _, _, _, _, _, _, _, _, _, _, _, rfl, rfl, ⟨(by first | exact v0 | exact fun _ => rfl), (by first | exact v1 | exact fun _ => rfl), fun _ => rfl, (by first | exact v3 | exact fun _ => rfl), (by first | exact v4 | exact fun _ => rfl), (by first | exact v5 | exact fun _ => rfl), (by first | exact v6 | exact fun _ => rfl), (by first | exact v7 | exact fun _ => rfl), (by first | exact v8 | exact fun _ => rfl), (by first | exact v9 | exact fun _ => rfl)⟩, ⟨fun _ => rfl, c4, c5, c7, c8, c9, c10, c11⟩, ⟨x0, x1, x2, x3, x4⟩⟩
      · -- 3
        obtain rfl : b3 = false := hun
        obtain rfl : b2 = true := hdep _ rfl ⟨2, .data⟩ (by simp) rfl
        obtain rfl := v2 rfl
        refine wpOpIn_step rfl (fun K' hK => ?_)
        go_simp
        refine ⟨trivial, fun _ => by omega, ?_⟩
        refine (CallsIn.inRound l (callsIn_wide.2 (HIX.out _))).mono ?_
        rintro e X' ⟨rfl, rfl⟩
        refine hK _ _ ⟨_, _, _, true, _, _, _, _, _, _, _, _, _, _, _, _, _, _, _, _, _, _, _, rfl, rfl, ⟨(by first | exact v0 | exact fun _ => rfl), (by first | exact v1 | exact fun _ => rfl), (by first | exact v2 | exact fun _ => rfl), fun _ => rfl, (by first | exact v4 | exact fun _ => rfl), (by first | exact v5 | exact fun _ => rfl), (by first | exact v6 | exact fun _ => rfl), (by first | exact v7 | exact fun _ => rfl), (by first | exact v8 | exact fun _ => rfl), (by first | exact v9 | exact fun _ => rfl)⟩, ⟨fun _ => rfl, fun h => ⟨(c4 h).1, rfl⟩, c5, fun h => ⟨(c7 h).1, rfl⟩, c8, c9, c10, c11⟩, ⟨x0, x1, x2, x3, x4⟩⟩
      · -- 4
        obtain rfl : b4 = false := hun
        obtain rfl : b1 = true := hdep _ rfl ⟨1, .data⟩ (by simp) rfl
        obtain rfl : b3 = true := hdep _ rfl ⟨3, .data⟩ (by simp) rfl
        obtain rfl := v1 rfl
        obtain rfl := v3 rfl
        have hj4' : (j : Int) < 4 := by omega
        refine wpOpIn_step rfl (fun K' hK => ?_)
        go_simp
        refine hK _ _ ⟨_, _, _, _, true, _, _, _, _, _, _, _, _, _, _, _, _, _, _, _, _, _, _, rfl, rfl, ⟨(by first | exact v0 | exact fun _ => rfl), (by first | exact v1 | exact fun _ => rfl), (by first | exact v2 | exact fun _ => rfl), (by first | exact v3 | exact fun _ => rfl), fun _ => rfl, (by first | exact v5 | exact fun _ => rfl), (by first | exact v6 | exact fun _ => rfl), (by first | exact v7 | exact fun _ => rfl), (by first | exact v8 | exact fun _ => rfl), (by first | exact v9 | exact fun _ => rfl)⟩, ⟨c3, fun _ => ⟨rfl, rfl⟩, fun _ => rfl, c7, c8, c9, c10, c11⟩, ⟨x0, x1, x2, x3, x4⟩⟩
      · -- 5
        obtain rfl : b5 = false := hun
        obtain rfl : b4 = true := hdep _ rfl ⟨4, .data⟩ (by simp) rfl
        obtain rfl := v4 rfl
        have q8 : b8 = false := by
          cases b8 with
          | false => rfl
          | true => have := (c8 rfl).1; cases this
        obtain rfl := x0 q8
        have hx : W.drew.cell? ⟨gi, j, none⟩ = some vj := hcW
        refine wpOpIn_step rfl (fun K' hK => ?_)
        go_simp
        refine hK _ _ ⟨_, _, _, _, _, true, _, _, _, _, _, _, _, _, _, _, _, _, _, _, _, _, _, rfl, rfl, ⟨(by first | exact v0 | exact fun _ => rfl), (by first | exact v1 | exact fun _ => rfl), (by first | exact v2 | exact fun _ => rfl), (by first | exact v3 | exact fun _ => rfl), (by first | exact v4 | exact fun _ => rfl), fun _ => rfl, (by first | exact v6 | exact fun _ => rfl), (by first | exact v7 | exact fun _ => rfl), (by first | exact v8 | exact fun _ => rfl), (by first | exact v9 | exact fun _ => rfl)⟩, ⟨c3, c4, fun _ => rfl, c7, fun h => ⟨rfl, (c8 h).2⟩, c9, c10, c11⟩, ⟨x0, x1, x2, x3, x4⟩⟩
      · -- 6
        obtain rfl : b6 = false := hun
        refine wpOpIn_step rfl (fun K' hK => ?_)
        go_simp
        refine hK _ _ ⟨_, _, _, _, _, _, true, _, _, _, _, _, _, _, _, _, _, _, _, _, _, _, _, rfl, rfl, ⟨(by first | exact v0 | exact fun _ => rfl), (by first | exact v1 | exact fun _ => rfl), (by first | exact v2 | exact fun _ => rfl), (by first | exact v3 | exact fun _ => rfl), (by first | exact v4 | exact fun _ => rfl), (by first | exact v5 | exact fun _ => rfl), fun _ => rfl, (by first | exact v7 | exact fun _ => rfl), (by first | exact v8 | exact fun _ => rfl), (by first | exact v9 | exact fun _ => rfl)⟩, ⟨c3, c4, c5, fun h => ⟨rfl, (c7 h).2⟩, c8, c9, c10, c11⟩, ⟨x0, x1, x2, x3, x4⟩⟩
      · -- 7
        obtain rfl : b7 = false := hun
        obtain rfl : b6 = true := hdep _ rfl ⟨6, .data⟩ (by simp) rfl
        obtain rfl : b3 = true := hdep _ rfl ⟨3, .chain⟩ (by simp) rfl
        obtain rfl := v6 rfl
        refine wpOpIn_step rfl (fun K' hK => ?_)
        go_simp
        refine ⟨trivial, fun _ => by omega, ?_⟩
        refine (CallsIn.inRound l (callsIn_wide.2 (HSX.out _))).mono ?_
        rintro e X' ⟨rfl, rfl⟩
        refine hK _ _ ⟨_, _, _, _, _, _, _, true, _, _, _, _, _, _, _, _, _, _, _, _, _, _, _, rfl, rfl, ⟨(by first | exact v0 | exact fun _ => rfl), (by first | exact v1 | exact fun _ => rfl), (by first | exact v2 | exact fun _ => rfl), (by first | exact v3 | exact fun _ => rfl), (by first | exact v4 | exact fun _ => rfl), (by first | exact v5 | exact fun _ => rfl), (by first | exact v6 | exact fun _ => rfl), fun _ => rfl, (by first | exact v8 | exact fun _ => rfl), (by first | exact v9 | exact fun _ => rfl)⟩, ⟨c3, c4, c5, fun _ => ⟨rfl, rfl⟩, fun h => ⟨(c8 h).1, rfl⟩, c9, c10, c11⟩, ⟨x0, x1, x2, x3, x4⟩⟩
      · -- 8
        obtain rfl : b8 = false := hun
        obtain rfl : b5 = true := hdep _ rfl ⟨5, .data⟩ (by simp) rfl
        obtain rfl : b7 = true := hdep _ rfl ⟨7, .data⟩ (by simp) rfl
        obtain rfl := v5 rfl
        obtain rfl := v7 rfl
        obtain rfl := x0 rfl
        refine wpOpIn_step rfl (fun K' hK => ?_)
        go_simp
        refine ⟨trivial, fun _ => by omega, ?_⟩
        refine (CallsIn.inRound l (callsIn_wide.2 (HLT.out _))).mono ?_
        rintro e X' ⟨rfl, rfl⟩
        refine hK _ _ ⟨_, _, _, _, _, _, _, _, true, _, _, _, _, _, _, _, _, _, _, _, _, _, _, rfl, rfl, ⟨(by first | exact v0 | exact fun _ => rfl), (by first | exact v1 | exact fun _ => rfl), (by first | exact v2 | exact fun _ => rfl), (by first | exact v3 | exact fun _ => rfl), (by first | exact v4 | exact fun _ => rfl), (by first | exact v5 | exact fun _ => rfl), (by first | exact v6 | exact fun _ => rfl), (by first | exact v7 | exact fun _ => rfl), fun _ => hfv, (by first | exact v9 | exact fun _ => rfl)⟩, ⟨c3, c4, c5, c7, fun _ => ⟨rfl, rfl⟩, fun _ => rfl, c10, c11⟩, ⟨fun h => (by cases h), fun _ _ => rfl, fun h _ => (by have := c9 h; cases this), fun h _ => (by have := c9 (c10 h).1; cases this), fun h => (by have := c9 (c10 (c11 h)).1; cases this)⟩⟩
      · -- 9
        obtain rfl : b9 = false := hun
        obtain rfl : b8 = true := hdep _ rfl ⟨8, .data⟩ (by simp) rfl
        have e39 := v8 rfl
        rw [← hfv] at e39
        subst e39
        have HF := Lib.hid hfv
        have V8 := Lib.hid v8
        clear hfv v8
        obtain rfl := x1 rfl rfl
        refine wpOpIn_step rfl (fun K' hK => ?_)
        go_simp
        refine hK _ _ ⟨_, _, _, _, _, _, _, _, _, true, _, _, _, _, _, _, _, _, _, _, _, _, _, rfl, rfl, ⟨(by first | exact v0 | exact fun _ => rfl), (by first | exact v1 | exact fun _ => rfl), (by first | exact v2 | exact fun _ => rfl), (by first | exact v3 | exact fun _ => rfl), (by first | exact v4 | exact fun _ => rfl), (by first | exact v5 | exact fun _ => rfl), (by first | exact v6 | exact fun _ => rfl), (by first | exact v7 | exact fun _ => rfl), (by first | exact V8.out | exact fun _ => rfl), fun _ => rfl⟩, ⟨c3, c4, c5, c7, c8, fun _ => rfl, fun h => ⟨rfl, (c10 h).2⟩, c11⟩, ⟨fun h => (by cases h), fun _ h => (by cases h), fun _ _ => (by rw [← HF.out]; first | done | rfl), fun h _ => (by have := (c10 h).1; cases this), fun h => (by have := (c10 (c11 h)).1; cases this)⟩⟩
      · -- 10
        obtain rfl : b10 = false := hun
        obtain rfl : b0 = true := hdep _ rfl ⟨0, .data⟩ (by simp) rfl
        obtain rfl : b9 = true := hdep _ rfl ⟨9, .data⟩ (by simp) rfl
        have e31 := v0 rfl
        have e40 := v9 rfl
        subst t31
        subst t40
        obtain rfl := x2 rfl rfl
        have hfo : fv.oneCell' = true := by rw [← hfv]; rfl
        have hd : W.drew.ownsRow (w2.heap.size + 1) IT 1 pv ps.length (ps.map funcV) := HROW.out
        have hcn := cell_one_new (W.drew.alloc (.cells #[vj] WT)) fv IT
        simp only [World.size_alloc] at hcn
        have hws := hB.size
        refine wpOpIn_step rfl (fun K' hK => ?_)
        refine (if_pos (show Region.wanted _ _ = true from rfl)).mpr ?_
        refine wpIn_append_op _ (.tmp 10) (.tmp 19) LTi rfl (w2.heap.size + 1) IT i0 .nilFunc 1 8 Try.underlying121 hi0 hz0 hz1 hz2 rfl (by decide) pv ps.length (ps.map funcV) rfl ((hd.alloc _).alloc _) ⟨W.heap.size + 1, 0, none⟩ 1 1 [fv] rfl rfl hcn (fun u hu => by rw [List.mem_singleton.1 hu]; exact hfo) (by unfold maxLen; omega) (by omega) (by simp only [World.size_alloc]; show _ ≤ W.heap.size + 1 + 1; omega) ?_
        intro v' X' hown' hgr' _
        refine hK _ _ ⟨_, _, _, _, _, _, _, _, _, _, true, _, _, _, _, _, _, _, _, _, _, _, _, rfl, rfl, ⟨(by first | exact v0 | exact fun _ => rfl), (by first | exact v1 | exact fun _ => rfl), (by first | exact v2 | exact fun _ => rfl), (by first | exact v3 | exact fun _ => rfl), (by first | exact v4 | exact fun _ => rfl), (by first | exact v5 | exact fun _ => rfl), (by first | exact v6 | exact fun _ => rfl), (by first | exact v7 | exact fun _ => rfl), (by first | exact v8 | exact fun _ => rfl), (by first | exact v9 | exact fun _ => rfl)⟩, ⟨c3, c4, c5, c7, c8, c9, fun _ => ⟨rfl, rfl⟩, fun _ => rfl⟩, ⟨fun h => (by have := c8 ; exact absurd h (by simp_all)), fun _ h => (by cases h), fun _ h => (by cases h), fun _ _ => (by rw [hS3]; exact ⟨hown', hgr'⟩), fun h => (by have := c11 h; cases this)⟩⟩
      · -- 11
        obtain rfl : b11 = false := hun
        obtain rfl : b10 = true := hdep _ rfl ⟨10, .data⟩ (by simp) rfl
        have h3 := x3 rfl rfl
        have h3' := h3
        rw [hS3] at h3'
        have hbW : Boxed W.drew (w2.heap.size + 1) LTi pv := HBX.out
        have hbX : Boxed X (w2.heap.size + 1) LTi pv := (((hbW.alloc _).alloc _).kept h3'.2 (HBX.out.not_row (by decide) HROW.out))
        obtain ⟨g', cap', rfl⟩ := ownsRow_succ h3'.1
        have hx := hbX.cell
        have hxf := hbX.frozen
        refine wpOpIn_step rfl (fun K' hK => ?_)
        go_simp
        refine hK _ _ ⟨_, _, _, _, _, _, _, _, _, _, _, true, _, _, _, _, _, _, _, _, _, _, _, rfl, rfl, ⟨(by first | exact v0 | exact fun _ => rfl), (by first | exact v1 | exact fun _ => rfl), (by first | exact v2 | exact fun _ => rfl), (by first | exact v3 | exact fun _ => rfl), (by first | exact v4 | exact fun _ => rfl), (by first | exact v5 | exact fun _ => rfl), (by first | exact v6 | exact fun _ => rfl), (by first | exact v7 | exact fun _ => rfl), (by first | exact v8 | exact fun _ => rfl), (by first | exact v9 | exact fun _ => rfl)⟩, ⟨c3, c4, c5, c7, c8, c9, c10, fun _ => rfl⟩, ⟨fun h => (by have h8 := c9 (c10 rfl).1; rw [h] at h8; cases h8), fun _ h => (by have h9 := (c10 rfl).1; rw [h] at h9; cases h9), fun _ h => (by cases h), fun _ h => (by cases h), fun _ => ⟨X, h3, rfl⟩⟩⟩
    case rdone =>
      rintro listed a X ⟨b0, b1, b2, b3, b4, b5, b6, b7, b8, b9, b10, b11, t31, t32, t33, t34, t35, t36, t37, t38, t39, t40, t41, rfl, rfl, -, -, ⟨-, -, -, -, x4⟩⟩ hall
      have q0 : b0 = true := hall 0 _ rfl (fun e he => by simp at he)
      have q1 : b1 = true := hall 1 _ rfl (fun e he => by simp at he)
      have q2 : b2 = true := hall 2 _ rfl (fun e he => by simp at he)
      have q6 : b6 = true := hall 6 _ rfl (fun e he => by simp at he)
      have q3 : b3 = true := hall 3 _ rfl (by
        intro e he _
        simp at he
        rcases he with rfl
        all_goals first | exact q0 | exact q1 | exact q2 | exact q6)
      have q4 : b4 = true := hall 4 _ rfl (by
        intro e he _
        simp at he
        rcases he with rfl | rfl
        all_goals first | exact q0 | exact q1 | exact q2 | exact q6 | exact q3)
      have q5 : b5 = true := hall 5 _ rfl (by
        intro e he _
        simp at he
        rcases he with rfl
        all_goals first | exact q0 | exact q1 | exact q2 | exact q6 | exact q3 | exact q4)
      have q7 : b7 = true := hall 7 _ rfl (by
        intro e he _
        simp at he
        rcases he with rfl | rfl
        all_goals first | exact q0 | exact q1 | exact q2 | exact q6 | exact q3 | exact q4 | exact q5)
      have q8 : b8 = true := hall 8 _ rfl (by
        intro e he _
        simp at he
        rcases he with rfl | rfl | rfl
        all_goals first | exact q0 | exact q1 | exact q2 | exact q6 | exact q3 | exact q4 | exact q5 | exact q7)
      have q9 : b9 = true := hall 9 _ rfl (by
        intro e he _
        simp at he
        rcases he with rfl
        all_goals first | exact q0 | exact q1 | exact q2 | exact q6 | exact q3 | exact q4 | exact q5 | exact q7 | exact q8)
      have q10 : b10 = true := hall 10 _ rfl (by
        intro e he _
        simp at he
        rcases he with rfl | rfl | rfl
        all_goals first | exact q0 | exact q1 | exact q2 | exact q6 | exact q3 | exact q4 | exact q5 | exact q7 | exact q8 | exact q9)
      have q11 : b11 = true := hall 11 _ rfl (by
        intro e he _
        simp at he
        rcases he with rfl | rfl | rfl | rfl | rfl | rfl | rfl | rfl | rfl | rfl | rfl | rfl | rfl
        all_goals first | exact q0 | exact q1 | exact q2 | exact q6 | exact q3 | exact q4 | exact q5 | exact q7 | exact q8 | exact q9 | exact q10)
      obtain ⟨X0, h3, rfl⟩ := x4 q11
      rw [hS3] at h3
      obtain ⟨hown3, hgr3⟩ := h3
      have hws := hB.size
      have hk' : ps.length = pre.length := HK.out
      have hbW : Boxed W.drew (w2.heap.size + 1) LTi pv := HBX.out
      have hnr := HBX.out.not_row (by decide) HROW.out
      have hbX : Boxed X0 (w2.heap.size + 1) LTi pv := ((hbW.alloc _).alloc _).kept hgr3 hnr
      have hb2' : Below (w2.heap.size + 1) W ((W.drew.alloc (.cells #[vj] WT)).alloc (.cells #[fv] IT)) := (((Below.refl _ W).drew.alloc (by show _ ≤ W.heap.size; omega) _).alloc (by simp only [World.size_alloc]; show _ ≤ W.heap.size + 1; omega) _)
      have hrowb : ∀ j, pv.ownBlock = some j → w2.heap.size + 1 ≤ j ∧ ∃ cs r, W.heap[j]? = some (.cells cs IT r) := by
        intro j ej
        rcases HROW.out.2 with ⟨rfl, _⟩ | ⟨g1', cap1', cur1, rfl, hg1, hg2, _⟩
        · cases ej
        · simp [Value.ownBlock] at ej
          subst ej
          exact ⟨hg1, _, _, hg2⟩
      have hbel : Below (w2.heap.size + 1) W (X0.setCell ⟨w2.heap.size + 1, 0, none⟩ t41) := (hb2'.grown hgr3 (by simp only [World.size_alloc]; show _ ≤ W.heap.size + 1 + 1; omega) (fun j ej => (hrowb j ej).1)).setCell (p := ⟨w2.heap.size + 1, 0, none⟩) (Nat.le_refl _) _
      have hko : KeepsOthers W (X0.setCell ⟨w2.heap.size + 1, 0, none⟩ t41) := by
        refine (KeepsOthers.drew W).trans (KeepsOthers.trans ?_ (KeepsOthers.setCell _ _ _))
        refine (KeepsOthers.alloc _ _).trans ((KeepsOthers.alloc _ _).trans (KeepsOthers.of_grownBy hgr3 fun j o ej hj => ?_))
        obtain ⟨hj1, cs, r, hjc⟩ := hrowb j ej
        have hlt : j < W.heap.size := (Array.getElem?_eq_some_iff.1 hjc).1
        rw [Below.heap_alloc _ _ _ (by simp only [World.size_alloc]; show j < W.heap.size + 1; omega), Below.heap_alloc _ _ _ (by show j < W.heap.size; omega)] at hj
        rw [show W.drew.heap[j]? = W.heap[j]? from rfl, hjc] at hj
        cases hj; rfl
      have hgetbox : ∀ (Bx : Nat) (v : Value), Boxed ((W.drew.alloc (.cells #[vj] WT)).alloc (.cells #[fv] IT)) Bx WT v → Bx < W.heap.size + 1 → Boxed (X0.setCell ⟨w2.heap.size + 1, 0, none⟩ t41) Bx WT v := by
        intro Bx v hv hlt
        have hne : Bx ≠ w2.heap.size + 1 := by
          rintro rfl
          have h1 : Boxed ((W.drew.alloc (.cells #[vj] WT)).alloc (.cells #[fv] IT)) (w2.heap.size + 1) LTi pv := (hbW.alloc _).alloc _
          unfold Boxed at h1 hv
          rw [h1] at hv
          cases hv
        have hnb : some Bx ≠ pv.ownBlock := by
          intro e
          obtain ⟨hj1, cs, r, hjc⟩ := hrowb Bx e.symm
          unfold Boxed at hv
          have hlt : Bx < W.heap.size := (Array.getElem?_eq_some_iff.1 hjc).1
          rw [Below.heap_alloc _ _ _ (by simp only [World.size_alloc]; show Bx < W.heap.size + 1; omega), Below.heap_alloc _ _ _ (by show Bx < W.heap.size; omega), show W.drew.heap[Bx]? = W.heap[Bx]? from rfl, hjc] at hv
          cases hv
        exact (hv.kept hgr3 hnb).other hne _
      gi_wp2
      refine ⟨hko.from _, ⟨hbel, hko.from _⟩, ⟨ps ++ [⟨gf, #[.pointer (some ⟨W.heap.size, 0, none⟩)], imgX zs x⟩], by simp [hk'], ?_, ⟨t41, hbX.set _, ?_, trivial⟩, ?_⟩, hB.trans (hbel.mono (by omega))⟩
      · have := HCAT.out
        unfold cat at this ⊢
        simp [this]
      · have := hown3.kept (grownBy_setCell' X0 (w2.heap.size + 1) t41) (.inr (hbX.not_row (by decide) hown3).symm)
        rw [List.map_append, List.length_append]
        rw [← hfv] at this
        exact this
      · intro p hp
        rcases List.mem_append.1 hp with hp | hp
        · obtain ⟨Bx, sv, L, e1, e2, e3, e4, e5⟩ := HPA.out p hp
          refine ⟨Bx, sv, L, e1, e2, hgetbox Bx sv (((show Boxed W.drew Bx WT sv from e3).alloc _).alloc _) ?_, e4, e5⟩
          have := e3.lt
          omega
        · obtain rfl := List.mem_singleton.1 hp
          exact ⟨W.heap.size, vj, _, rfl, by omega, hgetbox W.heap.size vj ((Boxed.new W.drew WT vj).alloc _) (by omega), HGV.out, HIW.out⟩
  case done =>
    rintro D W hD ⟨⟨ps, hps, hcat, ⟨pv, hbx, hrow, _⟩, hpa⟩, hB⟩ hK
    have hWs := hB.size
    have hDlt : D < W.heap.size := (Array.getElem?_eq_some_iff.1 hK).1
    obtain ⟨a, cap0, b, rfl, ha, hb, hc⟩ := owns_slice hrow (by omega)
    have hx := hbx.cell
    have hBW : Below w2.heap.size w2 W := hBv.trans (hB.mono (by omega))
    have hlet : letL (putX zs L) = true := letL_putX zs L HZ.out
    have hcl : (cat ps).length ≤ 60 * 60 := by
      rw [hcat]
      refine Nat.le_trans (putX_len zs L HZ.out) (Nat.mul_le_mul (by rw [HKL.out]; exact hk60) (Nat.le_refl _))
    have hrd := reduced_in (n - 1) (by omega) a b 0 cap0 ps W ha hb
      (fun i h => by rw [Nat.zero_add, hc i (by simpa using h)]; simp [funcV])
      (fun p hp => by
        obtain ⟨B, sv, Lp, e1, e2, e3, e4, e5⟩ := hpa p hp
        refine ⟨?_, e4.2⟩
        have hlb : p.lb = #[.pointer (some ⟨B, 0, none⟩)] := e1
        rw [hlb]
        exact e4.1 W B W.heap.size e3.lt (Nat.le_refl _) e3.cell ((e5.below hB).mono (by omega)))
      (by omega) (by rw [hps, HKL.out]; omega)
    rw [hcat] at hrd
    have HRD := Lib.hid hrd
    have HK := Lib.hid hK
    clear hrd hcat hpa hrow hbx hc ha hK hps
    gi_wp2_with fail
    refine ⟨trivial, fun _ => by omega, ?_⟩
    refine HRD.out.mono ?_
    rintro e w4 ⟨g4, m, cap4, rfl, hm, hown, hb4⟩
    have hK4 : w4.heap[D]? = some (.deferred (some [])) := (hb4.block _ hDlt).trans HK.out
    have Hm := Lib.hid hm
    have HO := Lib.hid hown
    have HK4 := Lib.hid hK4
    clear hm hown hK4
    gi_wp2
    refine ⟨by simp, .inl ⟨_, _, rfl, run_takeDeferred HK4.out, ?_⟩⟩
    refine ⟨.slice (some ⟨g4, 0, none⟩) m cap4, by simp [results, Try.f133, go_sem], g4, m, cap4, rfl, Hm.out, ownsRow_base (ownsRow_putObj HO.out _ HK4.out rfl) (by omega), ?_⟩
    exact (hBW.trans (hb4.mono (by omega))).trans (belowK_b (w := w2) (Nat.le_refl _) w4 D _ _ (by omega) HK4.out rfl rfl)

end Go.Proofs.Ytaaeiogdhmiaaaa

/- Commutators, parity, cores and putting, over lists of letters. -/

namespace Go.Proofs.Ytaaeiogdhmiaaaa
open Go.RowKit

/-! ### Commutators -/
theorem comm_back {a b : List UInt8} (ha : letL a = true) (hb : letL b = true) : backL (commL a b) = commL b a := by
  unfold commL
  rw [backL_append, backL_append, backL_append, back_back a ha, back_back b hb]
  simp
theorem comm_let {a b : List UInt8} (ha : letL a = true) (hb : letL b = true) : letL (commL a b) = true := by
  unfold commL
  rw [letL_append, letL_append, letL_append, ha, hb, letL_back a ha, letL_back b hb]; rfl
theorem comm_sg (i : Nat) {a b : List UInt8} (ha : letL a = true) (hb : letL b = true) : sgL i (commL a b) = 0 := by
  unfold commL
  rw [sgL_append, sgL_append, sgL_append, sgL_back i a ha, sgL_back i b hb]; omega
/-- A commutator ahead of the product the other way. -/
theorem comm_times {a b : List UInt8} (ha : letL a = true) (hb : letL b = true) : redL [] (commL a b ++ (b ++ a)) = redL [] (a ++ b) := by
  unfold commL
  rw [show a ++ b ++ backL a ++ backL b ++ (b ++ a) = (a ++ b ++ backL a ++ backL b ++ b) ++ a by simp, redL_append, red_inv2 hb, ← redL_append, red_inv2 ha]
theorem sums_comm {a b : List UInt8} (ha : letL a = true) (hb : letL b = true) : sumsL (redL [] (commL a b)) = [0, 0, 0, 0] := by
  have hl := letL_red2 _ [] (comm_let ha hb) rfl
  have h4 := (sumsL_inv _ hl).1
  refine List.ext_getElem (by rw [h4]; rfl) fun i hi hj => ?_
  rw [sums_get _ hl, sgL_red i _ [] (comm_let ha hb), comm_sg i ha hb]
  have hj4 : i < 4 := hj
  rcases (show i = 0 ∨ i = 1 ∨ i = 2 ∨ i = 3 by omega) with rfl | rfl | rfl | rfl <;> rfl
/-! ### Parity -/
theorem step_parity (l : List UInt8) (c : UInt8) : ∃ k, (redStep l c).length + 2 * k = l.length + 1 := by
  unfold redStep
  split
  · refine ⟨1, ?_⟩
    rename_i h
    cases l with
    | nil => simp at h
    | cons a r => simp
  · exact ⟨0, by simp⟩
theorem red_parity : ∀ (s l : List UInt8), ∃ k, (redL l s).length + 2 * k = l.length + s.length
  | [], l => ⟨0, by simp [redL_nil]⟩
  | c :: s, l => by
    obtain ⟨k, hk⟩ := step_parity l c
    obtain ⟨j, hj⟩ := red_parity s (redStep l c)
    refine ⟨k + j, ?_⟩
    have e : redL l (c :: s) = redL (redStep l c) s := rfl
    rw [e, List.length_cons]; omega
/-! ### Cores -/
theorem coreF_core : ∀ (m : Nat) (l : List UInt8), l.length ≤ m → coreC (coreF m l) = false
  | 0, l, h => by
    have : l = [] := List.length_eq_zero_iff.1 (by omega)
    subst this
    rfl
  | m + 1, l, h => by
    rw [coreF]
    split
    · rename_i hc
      have h1 : 1 < l.length := by unfold coreC at hc; simp only [Bool.and_eq_true, decide_eq_true_eq] at hc; exact hc.1
      exact coreF_core m _ (by rw [core_len]; omega)
    · rename_i hc; simpa using hc
theorem core_core (l : List UInt8) : coreL (coreL l) = coreL l := coreF_false (coreF_core l.length l (Nat.le_refl _)) _
theorem core_le (l : List UInt8) : (coreL l).length ≤ l.length := coreF_len _ _
theorem core_ends {l : List UInt8} (hl : letL l = true) (hc : coreC l = true) : ∃ c, letB c = true ∧ l = [turnB c] ++ l.tail.dropLast ++ [c] := by
  have h1 : 1 < l.length := by unfold coreC at hc; simp only [Bool.and_eq_true, decide_eq_true_eq] at hc; exact hc.1
  obtain ⟨p, c, rfl⟩ := last_split l (by omega)
  cases p with
  | nil => simp at h1
  | cons x q =>
    have hx : x = turnB c := by
      unfold coreC at hc
      simp only [Bool.and_eq_true, decide_eq_true_eq] at hc
      have h2 := hc.2
      have e : (x :: q ++ [c]).getLast? = some c := List.getLast?_concat
      rw [e] at h2
      simpa using h2
    refine ⟨c, letL_get _ hl ((x :: q ++ [c]).length - 1) (by simp) |> fun h => by simpa using h, ?_⟩
    subst hx
    simp
theorem coreF_word : ∀ (m : Nat) (l : List UInt8), letL l = true → noC l → letL (coreF m l) = true ∧ noC (coreF m l)
  | 0, l, h1, h2 => ⟨h1, h2⟩
  | m + 1, l, h1, h2 => by
    rw [coreF]
    split
    · rename_i hc
      obtain ⟨c, _, e⟩ := core_ends h1 hc
      refine coreF_word m _ (letL_core l h1) ?_
      rw [e] at h2
      intro p x y q h3
      refine h2 (turnB c :: p) x y (q ++ [c]) ?_
      rw [h3]; simp
    · exact ⟨h1, h2⟩
theorem core_word {l : List UInt8} (h : wordB l = true) : wordB (coreL l) = true := by
  obtain ⟨h1, h2, h3⟩ := (wordB_iff _).1 h
  obtain ⟨h4, h5⟩ := coreF_word l.length l h2 ((red_iff _).1 h3)
  refine (wordB_iff _).2 ⟨by have := core_le l; omega, h4, (red_iff _).2 h5⟩
theorem coreF_sg (i : Nat) : ∀ (m : Nat) (l : List UInt8), letL l = true → sgL i (coreF m l) = sgL i l
  | 0, l, h1 => rfl
  | m + 1, l, h1 => by
    rw [coreF]
    split
    · rename_i hc
      obtain ⟨c, hcl, e⟩ := core_ends h1 hc
      have h2 := coreF_sg i m _ (letL_core l h1)
      rw [h2]
      have h3 : sgL i l = sgL i ([turnB c] ++ l.tail.dropLast ++ [c]) := congrArg _ e
      rw [sgL_append, sgL_append, sgL_turn i hcl] at h3
      omega
    · rfl
theorem sums_core {l : List UInt8} (h : letL l = true) (h2 : letL (coreL l) = true) : sumsL (coreL l) = sumsL l := sums_eq h2 h fun i _ => coreF_sg i _ l h
/-! ### Putting -/
theorem img_turn (zs : List ByteArray) (hz : ∀ z ∈ zs, wordB z.data.toList = true) {c : UInt8} (hc : letB c = true) : imgL zs (turnB c) = backL (imgL zs c) := by
  have hl : letL (zs.getD (idxB c) ByteArray.empty).data.toList = true := by
    rw [List.getD_eq_getElem?_getD]
    cases h : zs[idxB c]? with
    | none => rfl
    | some z => exact ((wordB_iff _).1 (hz z (List.mem_of_getElem? h))).2.1
  have hi := (sg_turn hc).1
  unfold imgL
  rw [hi]
  have h := (letB_iff c).1 hc
  rcases h with h | h
  · have := turnB_hi c h.1
    rw [if_pos (by omega), if_neg (by omega)]
  · have := turnB_lo c (by omega)
    rw [if_neg (by omega), if_pos (by omega), back_back _ hl]
theorem putL_append (zs : List ByteArray) (a b : List UInt8) : putL zs (a ++ b) = putL zs a ++ putL zs b := by simp [putL]
theorem put_back (zs : List ByteArray) (hz : ∀ z ∈ zs, wordB z.data.toList = true) : ∀ s : List UInt8, letL s = true → putL zs (backL s) = backL (putL zs s)
  | [], _ => rfl
  | c :: s, h => by
    rw [letL_cons, Bool.and_eq_true] at h
    have e : backL (c :: s) = backL s ++ [turnB c] := by simp [backL]
    have e1 : putL zs [turnB c] = imgL zs (turnB c) := by simp [putL]
    have e2 : putL zs (c :: s) = imgL zs c ++ putL zs s := by simp [putL]
    rw [e, putL_append, put_back zs hz s h.2, e1, img_turn zs hz h.1, e2, backL_append]
def abcd : List ByteArray := [{ data := #[97] }, { data := #[98] }, { data := #[99] }, { data := #[100] }]
theorem abcd_four : fourB abcd = true := by decide +kernel
theorem abcd_tab : ∀ n : Fin 256, letB (UInt8.ofNat n.val) = true → imgL abcd (UInt8.ofNat n.val) = [UInt8.ofNat n.val] := by decide +kernel
theorem abcd_img {c : UInt8} (h : letB c = true) : imgL abcd c = [c] := by
  have := abcd_tab ⟨c.toNat, c.toNat_lt⟩
  simp only [UInt8.ofNat_toNat] at this
  exact this h
theorem abcd_put : ∀ s : List UInt8, letL s = true → putL abcd s = s
  | [], _ => rfl
  | c :: s, h => by
    rw [letL_cons, Bool.and_eq_true] at h
    have e2 : putL abcd (c :: s) = imgL abcd c ++ putL abcd s := by simp [putL]
    rw [e2, abcd_img h.1, abcd_put s h.2]; rfl
theorem put_let (zs : List ByteArray) (hz : ∀ z ∈ zs, wordB z.data.toList = true) (s : List UInt8) : letL (putL zs s) = true := (putX_eq zs s hz).2

/-! ### Words of letters that reduce to few -/
theorem word_of_red {s : List UInt8} (hl : letL s = true) (h : (redL [] s).length ≤ 60) : wordB (redL [] s) = true := (wordB_iff _).2 ⟨h, letL_red2 s [] hl rfl, red_red s⟩
theorem word_back {s : List UInt8} (h : wordB s = true) : wordB (backL s) = true := by
  obtain ⟨h1, h2, h3⟩ := (wordB_iff _).1 h
  exact (wordB_iff _).2 ⟨by rw [backL_length]; exact h1, letL_back s h2, red_back s h2 h3⟩

end Go.Proofs.Ytaaeiogdhmiaaaa

/- How letters of braids act on words, over lists of bytes. -/

namespace Go.Proofs.Ytaaeiogdhmiaaaa
open Go.RowKit

def genC (i : Nat) : UInt8 := UInt8.ofNat (97 + i)
/-- The four words that a letter puts. -/
def bImg (c : UInt8) : List ByteArray :=
  if 97 ≤ c.toNat then (abcd.set (plN c) { data := #[genC (plN c), genC (plN c + 1), turnB (genC (plN c))] }).set (plN c + 1) { data := #[genC (plN c)] }
  else (abcd.set (plN c) { data := #[genC (plN c + 1)] }).set (plN c + 1) { data := #[turnB (genC (plN c + 1)), genC (plN c), genC (plN c + 1)] }

theorem bImg_tab : ∀ n : Fin 256, brB (UInt8.ofNat n.val) = true → (bImg (UInt8.ofNat n.val)).length = 4 ∧ (bImg (UInt8.ofNat n.val)).all (fun z => wordB z.data.toList && decide (z.size ≤ 3)) = true := by decide +kernel
theorem bImg_ok {c : UInt8} (h : brB c = true) : (bImg c).length = 4 ∧ ∀ z ∈ bImg c, wordB z.data.toList = true ∧ z.size ≤ 3 := by
  have := bImg_tab ⟨c.toNat, c.toNat_lt⟩
  simp only [UInt8.ofNat_toNat] at this
  obtain ⟨h1, h2⟩ := this h
  refine ⟨h1, fun z hz => ?_⟩
  have h3 := List.all_eq_true.1 h2 z hz
  simpa using h3
theorem bImg_word {c : UInt8} (h : brB c = true) : ∀ z ∈ bImg c, wordB z.data.toList = true := fun z hz => ((bImg_ok h).2 z hz).1

/-- What a letter makes of a word. -/
def actS (c : UInt8) (l : List UInt8) : List UInt8 := redL [] (putL (bImg c) l)
/-- What letters make of a word, if no word on the way is too long. -/
def actL : List UInt8 → List UInt8 → Option (List UInt8)
  | [], l => some l
  | c :: r, l => if (actS c l).length ≤ 60 then actL r (actS c l) else none
/-- What letters make of a word, however long. -/
def actF (b l : List UInt8) : List UInt8 := b.foldl (fun l c => actS c l) l

theorem actL_F : ∀ (b l r : List UInt8), actL b l = some r → r = actF b l
  | [], l, r, h => by simp [actL] at h; simp [actF, h]
  | c :: b, l, r, h => by
    unfold actL at h
    split at h
    · exact actL_F b _ r h
    · cases h
theorem actF_append (a b l : List UInt8) : actF (a ++ b) l = actF b (actF a l) := by simp [actF]
theorem actL_append : ∀ (a b l : List UInt8), actL (a ++ b) l = (actL a l).bind (actL b)
  | [], b, l => rfl
  | c :: a, b, l => by
    rw [List.cons_append]
    unfold actL
    split
    · exact actL_append a b _
    · rfl
theorem actL_len : ∀ (b l r : List UInt8), l.length ≤ 60 → actL b l = some r → r.length ≤ 60
  | [], l, r, hl, h => by simp [actL] at h; rw [← h]; exact hl
  | c :: b, l, r, _, h => by
    unfold actL at h
    split at h
    · exact actL_len b _ r (by assumption) h
    · cases h

theorem actS_let {c : UInt8} (hc : brB c = true) (l : List UInt8) : letL (actS c l) = true := letL_red2 _ [] (put_let _ (bImg_word hc) l) rfl
theorem actS_noC (c : UInt8) (l : List UInt8) : noC (actS c l) := noC_red _ [] noC_nil
theorem actS_word {c : UInt8} (hc : brB c = true) {l : List UInt8} (h : (actS c l).length ≤ 60) : wordB (actS c l) = true := word_of_red (put_let _ (bImg_word hc) l) h
theorem actF_let : ∀ (b : List UInt8), (∀ c ∈ b, brB c = true) → ∀ l, letL l = true → letL (actF b l) = true
  | [], _, l, h => h
  | c :: b, hb, l, _ => actF_let b (fun x hx => hb x (by simp [hx])) _ (actS_let (hb c (by simp)) l)
theorem actF_noC : ∀ (b : List UInt8) (l : List UInt8), noC l → noC (actF b l)
  | [], _, h => h
  | _ :: b, l, _ => actF_noC b _ (actS_noC _ l)
theorem actL_word : ∀ (b : List UInt8), (∀ c ∈ b, brB c = true) → ∀ (l r : List UInt8), wordB l = true → actL b l = some r → wordB r = true
  | [], _, l, r, hl, h => by simp [actL] at h; rw [← h]; exact hl
  | c :: b, hb, l, r, _, h => by
    unfold actL at h
    split at h
    · exact actL_word b (fun x hx => hb x (by simp [hx])) _ r (actS_word (hb c (by simp)) (by assumption)) h
    · cases h

/-! ### Putting goes along products -/
theorem red_mid {s : List UInt8} (hs : letL s = true) (a b : List UInt8) : redL [] (a ++ backL s ++ s ++ b) = redL [] (a ++ b) := by
  rw [redL_append, red_inv2 hs, ← redL_append]
theorem put_red_acc (zs : List ByteArray) (hz : ∀ z ∈ zs, wordB z.data.toList = true) : ∀ (s acc : List UInt8), letL s = true → redL [] (putL zs (redL acc s)) = redL [] (putL zs (acc ++ s))
  | [], acc, _ => by simp [redL]
  | c :: r, acc, h => by
    have hc : letB c = true := by simp [letL] at h; exact h.1
    have hr : letL r = true := by simp [letL] at h ⊢; exact h.2
    rw [show redL acc (c :: r) = redL (redStep acc c) r from rfl, put_red_acc zs hz r _ hr]
    rcases List.eq_nil_or_concat acc with rfl | ⟨p, x, rfl⟩
    · rw [redStep_nil]; rfl
    · rw [List.concat_eq_append] at *
      by_cases hx : x = turnB c
      · rw [redStep_pop p x c hx, hx]
        have e1 : putL zs (p ++ [turnB c] ++ c :: r) = putL zs p ++ backL (imgL zs c) ++ imgL zs c ++ putL zs r := by
          rw [show p ++ [turnB c] ++ c :: r = p ++ ([turnB c] ++ ([c] ++ r)) by simp, putL_append, putL_append, putL_append]
          rw [show putL zs [turnB c] = backL (imgL zs c) by rw [← img_turn zs hz hc]; simp [putL], show putL zs [c] = imgL zs c by simp [putL]]
          simp
        rw [e1, red_mid (imgX_eq zs hz c).2, putL_append]
      · rw [redStep_push p x c hx]; simp
theorem put_red (zs : List ByteArray) (hz : ∀ z ∈ zs, wordB z.data.toList = true) (s : List UInt8) (h : letL s = true) : redL [] (putL zs (redL [] s)) = redL [] (putL zs s) := by
  have := put_red_acc zs hz s [] h
  simpa using this
/-- Words put letter by letter, the same for each letter. -/
theorem hom_eq (f g : UInt8 → List UInt8) (hf : ∀ c, letB c = true → letL (f c) = true ∧ letL (g c) = true ∧ redL [] (f c) = redL [] (g c)) : ∀ s : List UInt8, letL s = true → redL [] (s.map f).flatten = redL [] (s.map g).flatten ∧ letL (s.map f).flatten = true ∧ letL (s.map g).flatten = true
  | [], _ => ⟨rfl, rfl, rfl⟩
  | c :: r, h => by
    have hc : letB c = true := by simp [letL] at h; exact h.1
    have hr : letL r = true := by simp [letL] at h ⊢; exact h.2
    obtain ⟨h1, h2, h3⟩ := hf c hc
    obtain ⟨i1, i2, i3⟩ := hom_eq f g hf r hr
    simp only [List.map_cons, List.flatten_cons]
    refine ⟨?_, by rw [letL_append, h1, i2]; rfl, by rw [letL_append, h2, i3]; rfl⟩
    rw [← red_both i2, h3, i1, red_both i3]
/-- Letters, one behind the other, as one. -/
def compS : List UInt8 → List UInt8 → List UInt8
  | [], l => l
  | c :: b, l => compS b (putL (bImg c) l)
theorem compS_let : ∀ (b : List UInt8), (∀ c ∈ b, brB c = true) → ∀ l, letL l = true → letL (compS b l) = true
  | [], _, l, h => h
  | c :: b, hb, l, _ => compS_let b (fun x hx => hb x (by simp [hx])) _ (put_let _ (bImg_word (hb c (by simp))) l)
theorem compS_red : ∀ (b : List UInt8), (∀ c ∈ b, brB c = true) → ∀ l, letL l = true → redL [] (compS b (redL [] l)) = redL [] (compS b l)
  | [], _, l, _ => red_red l
  | c :: b, hb, l, h => by
    have hb' : ∀ x ∈ b, brB x = true := fun x hx => hb x (by simp [hx])
    have hz := bImg_word (hb c (by simp))
    have hl2 := put_let _ hz l
    have hl3 := put_let _ hz (redL [] l)
    show redL [] (compS b (putL (bImg c) (redL [] l))) = redL [] (compS b (putL (bImg c) l))
    rw [← compS_red b hb' _ hl3, put_red _ hz l h, compS_red b hb' _ hl2]
theorem actF_comp : ∀ (b : List UInt8), (∀ c ∈ b, brB c = true) → ∀ l, letL l = true → noC l → actF b l = redL [] (compS b l)
  | [], _, l, _, hn => ((red_iff l).2 hn).symm
  | c :: b, hb, l, h, _ => by
    have hb' : ∀ x ∈ b, brB x = true := fun x hx => hb x (by simp [hx])
    have hc := hb c (by simp)
    show actF b (actS c l) = _
    rw [actF_comp b hb' _ (actS_let hc l) (actS_noC c l)]
    exact compS_red b hb' _ (put_let _ (bImg_word hc) l)
theorem compS_append : ∀ (b : List UInt8) (l m : List UInt8), compS b (l ++ m) = compS b l ++ compS b m
  | [], _, _ => rfl
  | c :: b, l, m => by
    show compS b (putL (bImg c) (l ++ m)) = compS b (putL (bImg c) l) ++ compS b (putL (bImg c) m)
    rw [putL_append, compS_append]
theorem compS_nil : ∀ (b : List UInt8), compS b [] = []
  | [] => rfl
  | _ :: b => compS_nil b
theorem compS_map : ∀ (b l : List UInt8), compS b l = (l.map fun c => compS b [c]).flatten
  | b, [] => by rw [compS_nil]; rfl
  | b, c :: l => by
    rw [show c :: l = [c] ++ l from rfl, compS_append, compS_map b l]; simp
/-- Braids that act the same on letters act the same. -/
theorem act_same (a b : List UInt8) (ha : ∀ c ∈ a, brB c = true) (hb : ∀ c ∈ b, brB c = true) (h : ∀ c, letB c = true → redL [] (compS a [c]) = redL [] (compS b [c])) (l : List UInt8) (hl : letL l = true) (hn : noC l) : actF a l = actF b l := by
  rw [actF_comp a ha l hl hn, actF_comp b hb l hl hn, compS_map a l, compS_map b l]
  exact (hom_eq _ _ (fun c hc => ⟨compS_let a ha _ (by simp [letL, hc]), compS_let b hb _ (by simp [letL, hc]), h c hc⟩) l hl).1
theorem act_back (b : List UInt8) (hb : ∀ c ∈ b, brB c = true) (l : List UInt8) (hl : letL l = true) : compS b (backL l) = backL (compS b l) := by
  induction b generalizing l with
  | nil => rfl
  | cons c r ih =>
    have hz := bImg_word (hb c (by simp))
    show compS r (putL (bImg c) (backL l)) = backL (compS r (putL (bImg c) l))
    rw [put_back _ hz l hl, ih (fun x hx => hb x (by simp [hx])) _ (put_let _ hz l)]

end Go.Proofs.Ytaaeiogdhmiaaaa

/- The laws' own helpers for braids: szBraid, toBraid, eqBraid. -/

namespace Go.Proofs.Ytaaeiogdhmiaaaa
open Go.RowKit Go.ChangeShapes Go.WideShapes

/-- A braid as a value. -/
abbrev brV (n : Int) (s : ByteArray) : Value := .agg #[.int .i64 n, .string s]

theorem braid_of {H : Type} {enc : TypeId × Value → H} {W : World} {base : Nat} {spare : Nat → Bool} {held : Bool} {fuel : Nat} {cs : Array Value} {x : DataW H × List MemPlace}
    (h : DataW.trod enc Try.prog W base spare held fuel 23 cs.toList = some x) : ∃ (n : Int) (s : ByteArray), cs = #[.int .i64 n, .string s] ∧ (-9223372036854775808 ≤ n ∧ n ≤ 9223372036854775807) ∧ s.size ≤ maxLen := by
  obtain ⟨y0, y1, n, rfl, hl, h0, h1⟩ := trod_struct2 Try.underlying23 h
  have hc : cs.toList.length = 2 := hl.trans (by kernel_rfl)
  match hcs : cs.toList, hc with
  | [u, v], _ =>
    rw [hcs] at h0 h1
    obtain ⟨k, hk, _, hwf⟩ := DataW.trod_int Try.underlying3 h0
    have hu : u = .int .i64 k := by simpa [show Try.prog.cellsOf 3 = 1 by kernel_rfl] using hk
    have h1' : DataW.trod enc Try.prog W base spare held n 9 [v] = some y1 := by simpa [show Try.prog.cellsOf 9 = 1 by kernel_rfl] using h1
    obtain ⟨s, hs, _, hsz⟩ := DataW.trod_string Try.underlying9 h1'
    simp at hs
    subst hs
    simp only [Lit.wf, Bool.and_eq_true, decide_eq_true_eq] at hwf
    exact ⟨k, s, by rw [← hu]; exact Array.toList_inj.1 hcs, ⟨hwf.1, hwf.2⟩, hsz⟩

set_option maxHeartbeats 1000000 in
theorem szBraid_yes (n : Int) (s : ByteArray) (left : Nat) (w : World) (hl : left ≤ 1048576) (hs : s.size ≤ left) :
    Calls Try.prog 22 #[brV n s, .int .i64 left] w fun e w' => e = .returned (.int .i64 ((left - s.size : Nat) : Int)) ∧ Below w.heap.size w w' := by
  have hb : Below w.heap.size w (w.alloc (.cells #[.int .i64 n, .string s] 23)) := (Below.refl _ w).alloc (Nat.le_refl _) _
  have HB := Lib.hid hb
  clear hb
  have hd : decide ((left : Int) - (s.size : Int) < 0) = false := decide_eq_false (by omega)
  have he : Hid ((left : Int) - (s.size : Int) = ((left - s.size : Nat) : Int)) := Lib.hid (by omega)
  go_enter Try.func22, Try.ntmps22
  go_wp2
  go_ret
  exact ⟨ret_int he.out, HB.out⟩
set_option maxHeartbeats 1000000 in
theorem szBraid_no (n : Int) (s : ByteArray) (left : Nat) (w : World) (hl : left ≤ 1048576) (hm : s.size ≤ maxLen) (hs : left < s.size) :
    Calls Try.prog 22 #[brV n s, .int .i64 left] w fun e w' => e = .returned (.int .i64 (-1)) ∧ Below w.heap.size w w' := by
  unfold maxLen at hm
  have hb : Below w.heap.size w (w.alloc (.cells #[.int .i64 n, .string s] 23)) := (Below.refl _ w).alloc (Nat.le_refl _) _
  have HB := Lib.hid hb
  clear hb
  have hd : decide ((left : Int) - (s.size : Int) < 0) = true := decide_eq_true (by omega)
  go_enter Try.func22, Try.ntmps22
  go_wp2
  go_ret
  exact ⟨rfl, HB.out⟩

/-- A box of a braid among three that were made. -/
theorem mid_box (w : World) (o p : Obj) (n : Int) (s : ByteArray) (t : TypeId) :
    (((w.alloc o).alloc (.cells #[.int .i64 n, .string s] t)).alloc p).heap[w.heap.size + 1]? = some (.cells #[.int .i64 n, .string s] t (0, 0)) := by
  have h := World.alloc_heap_new (w.alloc o) (.cells #[.int .i64 n, .string s] t)
  rw [World.size_alloc] at h
  rw [Below.heap_alloc _ _ _ (by simp)]
  exact h

set_option maxRecDepth 100000 in
set_option maxHeartbeats 1000000 in
theorem toBraid_any (n : Int) (s : ByteArray) (w : World) :
    Calls Try.prog 24 #[brV n s] w fun e w' => e = .returned (brV n s) ∧ Below w.heap.size w w' := by
  go_enter Try.func24, Try.ntmps24
  go_wp2
  have h1 := mid_box w (.cells #[.int .i64 n, .string s] 23) (.cells #[.int .i64 n, .string s] 26) n s 26
  have hB : Below w.heap.size w (((w.alloc (.cells #[.int .i64 n, .string s] 23)).alloc (.cells #[.int .i64 n, .string s] 26)).alloc (.cells #[.int .i64 n, .string s] 26)) := (((Below.refl _ w).alloc (Nat.le_refl _) _).alloc (by simp) _).alloc (by simp; omega) _
  generalize ((w.alloc (.cells #[.int .i64 n, .string s] 23)).alloc (.cells #[.int .i64 n, .string s] 26)).alloc (.cells #[.int .i64 n, .string s] 26) = W at h1 hB ⊢
  have e0 : W.cell? ⟨w.heap.size + 1, 0, none⟩ = some (.int .i64 n) := by simp [World.cell?, h1]
  have e1 : W.cell? ⟨w.heap.size + 1, 1, none⟩ = some (.string s) := by simp [World.cell?, h1]
  refine bodyPost_ret (v := brV n s) ?_ rfl ⟨rfl, hB⟩
  simp [results, Try.results24, go_sem, e0, e1]

set_option maxHeartbeats 1000000 in
theorem eqBraid_yes (n : Int) (s : ByteArray) (w : World) :
    Calls Try.prog 28 #[brV n s, brV n s] w fun e w' => e = .returned (.bool true) ∧ Below w.heap.size w w' := by
  have hb : Below w.heap.size w ((w.alloc (.cells #[.int .i64 n, .string s] 26)).alloc (.cells #[.int .i64 n, .string s] 26)) := ((Below.refl _ w).alloc (Nat.le_refl _) _).alloc (by simp) _
  have HB := Lib.hid hb
  clear hb
  have h1 : (n != n) = false := by simp
  go_enter Try.func28, Try.ntmps28
  go_wp2
  go_ret
  exact ⟨rfl, HB.out⟩

end Go.Proofs.Ytaaeiogdhmiaaaa

/- The contracts of the model's powers of words. -/

namespace Go.Proofs.Ytaaeiogdhmiaaaa
open Go.RowKit

theorem l6In_same (k lo hi : Int) (b : Bool) (w : World) (h : (decide (lo ≤ k) && decide (k ≤ hi)) = b) :
    Calls Try.prog 68 #[.int .i64 k, .int .i64 lo, .int .i64 hi] w fun e w' => e = .returned (.bool b) ∧ w = w' := by
  by_cases h1 : lo ≤ k
  · by_cases h2 : k ≤ hi
    · have H : Hid (b = true) := Lib.hid (by rw [← h, decide_eq_true h1, decide_eq_true h2]; rfl)
      clear h
      go_enter Try.func68, Try.ntmps68
      go_wp2
      go_ret
      exact ⟨ret_bool H.out.symm, rfl⟩
    · have H : Hid (b = false) := Lib.hid (by rw [← h, decide_eq_false h2, Bool.and_false])
      clear h
      have h3 : hi < k := by omega
      go_enter Try.func68, Try.ntmps68
      go_wp2
      go_ret
      exact ⟨ret_bool H.out.symm, rfl⟩
  · have H : Hid (b = false) := Lib.hid (by rw [← h, decide_eq_false h1]; rfl)
    clear h
    have h3 : k < lo := by omega
    go_enter Try.func68, Try.ntmps68
    go_wp2
    go_ret
    exact ⟨ret_bool H.out.symm, rfl⟩

end Go.Proofs.Ytaaeiogdhmiaaaa

/- The contracts of the model's functions on braids: BraidIn, BraidTimes, BraidTurned, BraidSum, BraidGrow. -/

namespace Go.Proofs.Ytaaeiogdhmiaaaa
open Go.RowKit

theorem l9Index_any (c : UInt8) (w : World) (h : brB c = true) :
    Calls Try.prog 69 #[.int .u8 (c.toNat : Int)] w fun e w' => e = .returned (.int .i64 (plN c : Int)) ∧ w' = w := by
  have hr := (brB_iff c).1 h
  clear h
  by_cases h97 : 97 ≤ c.toNat
  · have hp : Hid (plN c = c.toNat - 120) := Lib.hid (if_pos h97)
    have h1 : 120 ≤ c.toNat ∧ c.toNat ≤ 122 := by omega
    obtain ⟨h1, h2⟩ := h1
    clear hr
    go_enter Try.func69, Try.ntmps69
    go_wp2
    go_ret
    exact ⟨ret_int (by rw [hp.out]; omega), rfl⟩
  · have hp : Hid (plN c = c.toNat - 88) := Lib.hid (if_neg h97)
    have h1 : 88 ≤ c.toNat ∧ c.toNat ≤ 90 := by omega
    obtain ⟨h1, h2⟩ := h1
    clear hr
    go_enter Try.func69, Try.ntmps69
    go_wp2
    go_ret
    exact ⟨ret_int (by rw [hp.out]; omega), rfl⟩

theorem braidB_no1 {n : Int} {s : ByteArray} (h : ¬ (2 ≤ n ∧ n ≤ 4)) : braidB n s = false := by unfold braidB; rw [decide_eq_false h]; rfl
theorem braidB_no2 {n : Int} {s : ByteArray} (h : ¬ s.size ≤ 30) : braidB n s = false := by unfold braidB; rw [decide_eq_false h, Bool.and_false]; rfl
theorem braidB_no3 {n : Int} {s : ByteArray} {k : Nat} (hk : k < s.data.toList.length) (h : brL n s.data.toList[k] = false) : braidB n s = false := by
  unfold braidB
  rw [Bool.and_eq_false_iff]
  exact .inr (List.all_eq_false.2 ⟨_, List.getElem_mem hk, by simpa using h⟩)
theorem braidB_yes {n : Int} {s : ByteArray} (h1 : 2 ≤ n ∧ n ≤ 4) (h2 : s.size ≤ 30) (h3 : (s.data.toList.take s.size).all (brL n) = true) : braidB n s = true := by
  unfold braidB
  rw [List.take_of_length_le (by simp)] at h3
  rw [decide_eq_true h1, decide_eq_true h2, h3]; rfl

set_option maxRecDepth 100000 in
set_option maxHeartbeats 2000000 in
theorem sBraidIn_any (n : Int) (s : ByteArray) (b : Bool) (w : World) (hm : s.size ≤ maxLen) (hb : braidB n s = b) :
    Calls Try.prog 23 #[brV n s] w fun e w' => e = .returned (.bool b) ∧ Below w.heap.size w w' := by
  unfold maxLen at hm
  obtain ⟨W, hW⟩ : ∃ W, w.alloc (.cells #[.int .i64 n, .string s] 26) = W := ⟨_, rfl⟩
  have hB : Below w.heap.size w W := by rw [← hW]; exact (Below.refl _ w).alloc (Nat.le_refl _) _
  have hk := World.alloc_heap_new w (.cells #[.int .i64 n, .string s] 26)
  rw [hW] at hk
  have e0 : W.cell? ⟨w.heap.size, 0, none⟩ = some (.int .i64 n) := by simp [World.cell?, hk]
  have e1 : W.cell? ⟨w.heap.size, 1, none⟩ = some (.string s) := by simp [World.cell?, hk]
  have HW := Lib.hid hW
  have HB := Lib.hid hB
  clear hk hW hB
  by_cases h1 : 2 ≤ n ∧ n ≤ 4
  · have hin := Lib.hid (show (decide (2 ≤ n) && decide (n ≤ 4)) = true by rw [decide_eq_true h1.1, decide_eq_true h1.2]; rfl)
    by_cases h2 : s.size ≤ 30
    · have HN := Lib.hid hb
      obtain ⟨h1a, h1b⟩ := h1
      clear hb
      go_enter Try.func23, Try.ntmps23
      go_wp2_with fail
      rw [HW.out]
      go_wp2_with (go_at_call 68; refine (l6In_same n 2 4 true _ hin.out).mono ?_; rintro e w1 ⟨rfl, rfl⟩)
      have hws : w.heap.size < W.heap.size := World.block_lt_of_cell? _ _ e0
      go_loopw [3] (fun i wr => ∃ k : Nat, k ≤ s.size ∧ i = .int .i64 k ∧ Hid ((s.data.toList.take k).all (brL n) = true) ∧ Below W.heap.size W wr) (fun i _ => s.size - (intOf i).toNat)
      case atStart => exact ⟨0, Nat.zero_le _, rfl, Lib.hid rfl, Below.refl _ _⟩
      case round =>
        obtain ⟨k, hk, rfl, HL, hbW⟩ := hrel
        have f0 := (hbW.cell (p := ⟨w.heap.size, 0, none⟩) hws).trans e0
        have f1 := (hbW.cell (p := ⟨w.heap.size, 1, none⟩) hws).trans e1
        have HBW := Lib.hid hbW
        clear hbW
        by_cases hlt : k < s.size
        · have hl : k < s.data.toList.length := by simpa using hlt
          cases hc : brB s[k] with
          | true =>
            have HI := Lib.hid (fun w => l9Index_any s[k] w hc)
            obtain ⟨p, hp⟩ : ∃ p, plN s[k] = p := ⟨_, rfl⟩
            rw [hp] at HI
            have hr := (brB_iff _).1 hc
            have HS : Hid ((s.data.toList.take (k + 1)).all (brL n) = brL n s.data.toList[k]) := Lib.hid (by rw [List.take_succ_eq_append_getElem hl, List.all_append, HL.out]; simp)
            have HBR : Hid (brL n s.data.toList[k] = decide ((p : Int) < n - 1)) := Lib.hid (by unfold brL; rw [show s.data.toList[k] = s[k] from rfl, hc, hp]; rfl)
            clear hp
            by_cases hpl : (p : Int) < n - 1
            · have hd : decide (n - 2 < (p : Int)) = false := decide_eq_false (by omega)
              have hd2 : ¬ n - 2 < (p : Int) := by omega
              have hne := Lib.hid hc
              clear hc
              rcases hr with ⟨h1, h2⟩ | ⟨h1, h2⟩
              · have d1 : decide ((120 : Int) ≤ (s[k].toNat : Int)) = true := decide_eq_true (by omega)
                have d2 : decide ((s[k].toNat : Int) ≤ 122) = true := decide_eq_true (by omega)
                have d3 : decide ((88 : Int) ≤ (s[k].toNat : Int)) = true := decide_eq_true (by omega)
                have d4 : decide ((s[k].toNat : Int) ≤ 90) = false := decide_eq_false (by omega)
                go_wp2
                go_quiet ((go_at_call 69; exact Calls.quiet_of_same (HI.out _)))
                go_wp2
                go_roundw
                case rel => exact ⟨k + 1, by omega, by go_num, Lib.hid (by rw [HS.out, HBR.out]; exact decide_eq_true hpl), below_drewN HBW.out _⟩
                case measure => simp [intOf]; omega
              · have d1 : decide ((120 : Int) ≤ (s[k].toNat : Int)) = false := decide_eq_false (by omega)
                have d2 : decide ((s[k].toNat : Int) ≤ 122) = true := decide_eq_true (by omega)
                have d3 : decide ((88 : Int) ≤ (s[k].toNat : Int)) = true := decide_eq_true (by omega)
                have d4 : decide ((s[k].toNat : Int) ≤ 90) = true := decide_eq_true (by omega)
                go_wp2
                go_quiet ((go_at_call 69; exact Calls.quiet_of_same (HI.out _)))
                go_wp2
                go_roundw
                case rel => exact ⟨k + 1, by omega, by go_num, Lib.hid (by rw [HS.out, HBR.out]; exact decide_eq_true hpl), below_drewN HBW.out _⟩
                case measure => simp [intOf]; omega
            · have hd : decide (n - 2 < (p : Int)) = true := decide_eq_true (by omega)
              have hd2 : n - 2 < (p : Int) := by omega
              have hbf := Lib.hid (braidB_no3 hl (by rw [HBR.out]; exact decide_eq_false hpl))
              have hne := Lib.hid hc
              clear hc
              rcases hr with ⟨h1, h2⟩ | ⟨h1, h2⟩
              · have d1 : decide ((120 : Int) ≤ (s[k].toNat : Int)) = true := decide_eq_true (by omega)
                have d2 : decide ((s[k].toNat : Int) ≤ 122) = true := decide_eq_true (by omega)
                have d3 : decide ((88 : Int) ≤ (s[k].toNat : Int)) = true := decide_eq_true (by omega)
                have d4 : decide ((s[k].toNat : Int) ≤ 90) = false := decide_eq_false (by omega)
                go_wp2
                go_quiet ((go_at_call 69; exact Calls.quiet_of_same (HI.out _)))
                go_wp2
                go_ret
                exact ⟨ret_bool (hbf.out.symm.trans HN.out), HB.out.trans ((below_drewN HBW.out _).mono HB.out.size)⟩
              · have d1 : decide ((120 : Int) ≤ (s[k].toNat : Int)) = false := decide_eq_false (by omega)
                have d2 : decide ((s[k].toNat : Int) ≤ 122) = true := decide_eq_true (by omega)
                have d3 : decide ((88 : Int) ≤ (s[k].toNat : Int)) = true := decide_eq_true (by omega)
                have d4 : decide ((s[k].toNat : Int) ≤ 90) = true := decide_eq_true (by omega)
                go_wp2
                go_quiet ((go_at_call 69; exact Calls.quiet_of_same (HI.out _)))
                go_wp2
                go_ret
                exact ⟨ret_bool (hbf.out.symm.trans HN.out), HB.out.trans ((below_drewN HBW.out _).mono HB.out.size)⟩
          | false =>
            have hr := brB_no _ hc
            have hbf := Lib.hid (braidB_no3 (n := n) hl (by unfold brL; rw [show s.data.toList[k] = s[k] from rfl, hc]; rfl))
            clear hc
            rcases (show s[k].toNat < 88 ∨ (90 < s[k].toNat ∧ s[k].toNat < 120) ∨ 122 < s[k].toNat by omega) with h1 | ⟨h1, h2⟩ | h1
            · have d1 : decide ((120 : Int) ≤ (s[k].toNat : Int)) = false := decide_eq_false (by omega)
              have d2 : decide ((s[k].toNat : Int) ≤ 122) = true := decide_eq_true (by omega)
              have d3 : decide ((88 : Int) ≤ (s[k].toNat : Int)) = false := decide_eq_false (by omega)
              have d4 : decide ((s[k].toNat : Int) ≤ 90) = true := decide_eq_true (by omega)
              clear hr
              go_wp2
              go_quiet (fail)
              go_wp2
              go_ret
              exact ⟨ret_bool (hbf.out.symm.trans HN.out), HB.out.trans ((below_drewN HBW.out _).mono HB.out.size)⟩
            · have d1 : decide ((120 : Int) ≤ (s[k].toNat : Int)) = false := decide_eq_false (by omega)
              have d2 : decide ((s[k].toNat : Int) ≤ 122) = true := decide_eq_true (by omega)
              have d3 : decide ((88 : Int) ≤ (s[k].toNat : Int)) = true := decide_eq_true (by omega)
              have d4 : decide ((s[k].toNat : Int) ≤ 90) = false := decide_eq_false (by omega)
              clear hr
              go_wp2
              go_quiet (fail)
              go_wp2
              go_ret
              exact ⟨ret_bool (hbf.out.symm.trans HN.out), HB.out.trans ((below_drewN HBW.out _).mono HB.out.size)⟩
            · have d1 : decide ((120 : Int) ≤ (s[k].toNat : Int)) = true := decide_eq_true (by omega)
              have d2 : decide ((s[k].toNat : Int) ≤ 122) = false := decide_eq_false (by omega)
              have d3 : decide ((88 : Int) ≤ (s[k].toNat : Int)) = true := decide_eq_true (by omega)
              have d4 : decide ((s[k].toNat : Int) ≤ 90) = false := decide_eq_false (by omega)
              clear hr
              go_wp2
              go_quiet (fail)
              go_wp2
              go_ret
              exact ⟨ret_bool (hbf.out.symm.trans HN.out), HB.out.trans ((below_drewN HBW.out _).mono HB.out.size)⟩
        · go_wp2
          go_ret
          exact ⟨ret_bool ((braidB_yes ⟨h1a, h1b⟩ h2 (by have := HL.out; rw [show k = s.size by omega] at this; exact this)).symm.trans HN.out), HB.out.trans (HBW.out.mono HB.out.size)⟩
    · have HN := Lib.hid ((braidB_no2 h2 (n := n)).symm.trans hb)
      clear hb
      obtain rfl := HN.out
      go_enter Try.func23, Try.ntmps23
      go_wp2_with fail
      rw [HW.out]
      go_wp2_with (go_at_call 68; refine (l6In_same n 2 4 true _ hin.out).mono ?_; rintro e w1 ⟨rfl, rfl⟩)
      go_ret
      exact ⟨rfl, HB.out⟩
  · have hin := Lib.hid (show (decide (2 ≤ n) && decide (n ≤ 4)) = false by rw [← Bool.decide_and]; exact decide_eq_false h1)
    obtain rfl := (braidB_no1 h1 (s := s)).symm.trans hb
    clear hb
    go_enter Try.func23, Try.ntmps23
    go_wp2_with fail
    rw [HW.out]
    go_wp2_with (go_at_call 68; refine (l6In_same n 2 4 false _ hin.out).mono ?_; rintro e w1 ⟨rfl, rfl⟩)
    go_ret
    exact ⟨rfl, HB.out⟩

end Go.Proofs.Ytaaeiogdhmiaaaa

/- The contracts of the program's 'place' and 'BraidIn'. -/

namespace Go.Proofs.Ytaaeiogdhmiaaaa
open Go.RowKit Go.Shelf

attribute [local go_sem] Oper.semAt_some

theorem or120 : bits BinOp.or IntKind.u8 120 32 = 120 := by kernel_rfl
theorem index_120 (w : World) :
    Calls Try.prog 107 #[.int .u8 120] w fun e w' => e = .returned (.int .i64 23) ∧ w' = w := by
  have hb := or120
  go_enter Try.func107, Try.ntmps107
  go_wp2
  go_ret
  exact ⟨rfl, rfl⟩
theorem index_all (c : UInt8) (w : World) :
    Calls Try.prog 107 #[.int .u8 (c.toNat : Int)] w fun e w' => e = .returned (.int .i64 (plI c + 23)) ∧ w' = w := by
  obtain ⟨o, ho⟩ : ∃ o, bits BinOp.or IntKind.u8 (c.toNat : Int) 32 = o := ⟨_, rfl⟩
  obtain ⟨h1, h2⟩ := or_bnd c
  have hp : Hid (plI c = o - 120) := Lib.hid (by unfold plI; rw [ho])
  rw [ho] at h1 h2
  go_enter Try.func107, Try.ntmps107
  go_wp2
  go_ret
  exact ⟨ret_int (by rw [hp.out]; omega), rfl⟩
set_option maxRecDepth 100000 in
theorem place_any (c : UInt8) (w : World) :
    Calls Try.prog 71 #[.int .u8 (c.toNat : Int)] w fun e w' => e = .returned (.int .i64 (plI c)) ∧ w' = w := by
  have h1 : -120 ≤ plI c ∧ plI c ≤ 200 := by have := or_bnd c; unfold plI; omega
  have HI := Lib.hid (fun w => index_all c w)
  obtain ⟨p, hp⟩ : ∃ p, plI c = p := ⟨_, rfl⟩
  rw [hp] at h1 HI ⊢
  obtain ⟨h1, h2⟩ := h1
  clear hp
  go_enter Try.func71, Try.ntmps71
  go_wp2_with (first
    | (go_at_call 107; refine (HI.out _).mono ?_; rintro e w' ⟨rfl, rfl⟩)
    | (go_at_call 107; refine (index_120 _).mono ?_; rintro e w' ⟨rfl, rfl⟩))
  go_ret
  exact ⟨ret_int (by omega), rfl⟩

def brP (n : Int) (l : List UInt8) : Bool := l.all (brL n)
theorem brP_append (n : Int) (a b : List UInt8) : brP n (a ++ b) = (brP n a && brP n b) := by simp [brP]
theorem brP_prefix {n : Int} {p l : List UInt8} (hp : p <+: l) (h : brP n p = false) : brP n l = false := by
  obtain ⟨r, rfl⟩ := hp
  rw [brP_append, h]; rfl

set_option maxRecDepth 100000 in
set_option maxHeartbeats 1000000 in
theorem braidIn_in (m : Nat) (hn : 30 ≤ m) (n : Int) (s : ByteArray) (w : World) (h1 : 2 ≤ n) (h2 : n ≤ 4) (hs : s.size ≤ 30) :
    CallsIn Fence.wide m Try.prog 25 #[brV n s] w fun e w' => e = .returned (.bool (brP n s.data.toList)) ∧ Below w.heap.size w w' := by
  refine callsIn_of_wp_marks Try.func25 rfl trivial ?_ rfl
  simp only [Try.ntmps25, List.size_toArray, List.length_cons, List.length_nil, Nat.reduceAdd, Nat.reduceSub, Array.replicate_succ, Array.replicate_zero, List.push_toArray, List.append_toArray, List.nil_append, List.cons_append]
  gi_wp2_with fail
  refine ⟨trivial, fun _ => by omega, ?_⟩
  refine (callsIn_wide.2 (signsOf_any s _)).mono ?_
  rintro e w1 ⟨rfl, rfl⟩
  have hk : (((w.alloc (.cells #[.int .i64 n, .string s] 26)).alloc (.cells #[.bool false] 4)).alloc (.cells #[.string s] 9)).heap[w.heap.size]? = some (.cells #[.int .i64 n, .string s] 26 (0, 0)) := by
    rw [Below.heap_alloc _ _ _ (by simp; omega), Below.heap_alloc _ _ _ (by simp)]
    exact World.alloc_heap_new w _
  have b1 := (Boxed.new (w.alloc (.cells #[.int .i64 n, .string s] 26)) 4 (.bool false)).alloc (.cells #[.string s] 9)
  have b2 := Boxed.new ((w.alloc (.cells #[.int .i64 n, .string s] 26)).alloc (.cells #[.bool false] 4)) 9 (.string s)
  rw [World.size_alloc] at b1
  rw [World.size_alloc, World.size_alloc] at b2
  have hB0 : Below w.heap.size w (((w.alloc (.cells #[.int .i64 n, .string s] 26)).alloc (.cells #[.bool false] 4)).alloc (.cells #[.string s] 9)) := (((Below.refl _ w).alloc (Nat.le_refl _) _).alloc (by simp) _).alloc (by simp; omega) _
  have hsz : (((w.alloc (.cells #[.int .i64 n, .string s] 26)).alloc (.cells #[.bool false] 4)).alloc (.cells #[.string s] 9)).heap.size = w.heap.size + 3 := by simp
  obtain ⟨W0, hW0⟩ : ∃ W0, (((w.alloc (.cells #[.int .i64 n, .string s] 26)).alloc (.cells #[.bool false] 4)).alloc (.cells #[.string s] 9)) = W0 := ⟨_, rfl⟩
  simp only [World.size_alloc]
  rw [hW0] at hk b1 b2 hB0 hsz ⊢
  clear hW0
  have e0 : W0.cell? ⟨w.heap.size, 0, none⟩ = some (.int .i64 n) := by simp [World.cell?, hk]
  clear hk
  gi_wp2
  refine wpIn_rangeFunc_ownG rfl (by omega) (gf := 106) (lb := #[.pointer (some ⟨w.heap.size + 1 + 1, 0, none⟩)]) rfl trivial (enters_of Try.func106 (by kernel_rfl) rfl)
    (signs_seq s (by omega) W0 (w.heap.size + 1 + 1) W0.heap.size (by omega) (Nat.le_refl _) b2.cell (m - 1) (by omega)) belowK_t (belowK_b (Nat.le_refl _)) (Below.refl _ _) (fun _ => rfl)
    (fun pre W => Boxed W (w.heap.size + 1) 4 (.bool false) ∧ brP n pre = true ∧ Below W0.heap.size W0 W)
    (fun c pre W => ((c = .ret ∧ brP n pre = false) ∧ Boxed W (w.heap.size + 1) 4 (.bool false)) ∧ Below w.heap.size w W)
    (OwnFrom.and (Own.from (fun s A B row hs hg hr => boxed_own (w.heap.size + 1) _ (fun _ : Unit => .bool false) () A B row hs hg hr) _) (OwnFrom.and (ownFrom_pure _ _) (ownFrom_below (Nat.le_refl _) (Nat.le_refl _))))
    (fun c => OwnFrom.and (Own.from (fun s A B row hs hg hr => ⟨hs.1, boxed_own (w.heap.size + 1) _ (fun _ : Unit => .bool false) () A B row hs.2 hg hr⟩) _) (ownFrom_below (Nat.le_refl _) (by omega)))
    ⟨b1, rfl, Below.refl _ _⟩
    ?a1 ?assign ?body ?done ?stop
  case assign =>
    intro l x W K hK
    gi_wp2
    exact hK
  case body =>
    rintro l pre x W ⟨c1, hl, hB⟩ hlen
    have d1 := c1.cell
    have f1 := c1.frozen
    have g0 := (hB.cell (p := ⟨w.heap.size, 0, none⟩) (by show w.heap.size < W0.heap.size; omega)).trans e0
    have C1 := Lib.hid c1
    have HL := Lib.hid hl
    have HBr := Lib.hid (brL_place n h2 x)
    have HP := Lib.hid (fun w => place_any x w)
    have hBw : Below w.heap.size w W := hB0.trans (hB.mono (by omega))
    have HBw := Lib.hid hBw
    have HB := Lib.hid hB
    have HS : Hid (brP n (pre ++ [x]) = brL n x) := Lib.hid (by rw [brP_append, hl]; simp [brP])
    obtain ⟨p, hp⟩ : ∃ p, plI x = p := ⟨_, rfl⟩
    rw [hp] at HP HBr
    have hpb : -120 ≤ p ∧ p ≤ 200 := by have := or_bnd x; rw [← hp]; unfold plI; omega
    obtain ⟨hp1, hp2⟩ := hpb
    clear c1 hl hBw hp hB
    have hd : 1 ≤ m - 1 - 1 := by omega
    have hwr : IntKind.i64.wrap (n - 1) = n - 1 := IntWalk.i64_in _ (by omega)
    have hmx : Try.prog.follows .mixedOrders = true := by kernel_rfl
    by_cases hneg : p < 0
    · have hdn : decide (p < 0) = true := decide_eq_true hneg
      have hf := Lib.hid (HBr.out.trans (show _ = false by rw [decide_eq_false (show ¬ 0 ≤ p by omega)]; rfl))
      gi_wp2
      gi_region_with_o (first | (refine ⟨trivial, ?_⟩; gi_at_call 71; refine (CallsIn.inRound l (callsIn_wide.2 (HP.out _))).mono ?_; rintro e w' ⟨rfl, rfl⟩) | (refine ⟨trivial, ?_⟩))
      all_goals gi_wp2
      all_goals exact ⟨((KeepsOthers.setCell _ _ _).trans (KeepsOthers.drew _)).from _, ⟨⟨rfl, by rw [HS.out]; exact hf.out⟩, C1.out.set _⟩, (HBw.out.setCell (p := ⟨w.heap.size + 1, 0, none⟩) (by show w.heap.size ≤ w.heap.size + 1; omega) _).drew⟩
    · have hpos : 0 ≤ p := by omega
      have hdn : decide (p < 0) = false := decide_eq_false hneg
      by_cases hlt : p < n - 1
      · have hf := Lib.hid (HBr.out.trans (show _ = true by rw [decide_eq_true hpos, decide_eq_true hlt]; rfl))
        have hge : ¬ n - 1 ≤ p := by omega
        have hdg : decide (n - 1 ≤ p) = false := decide_eq_false hge
        gi_wp2
        gi_region_with_o (first | (refine ⟨trivial, ?_⟩; gi_at_call 71; refine (CallsIn.inRound l (callsIn_wide.2 (HP.out _))).mono ?_; rintro e w' ⟨rfl, rfl⟩) | (refine ⟨trivial, ?_⟩))
        all_goals gi_wp2
        all_goals exact ⟨(KeepsOthers.drew _).from _, (Below.refl _ _).drew, C1.out, by rw [HS.out]; exact hf.out, HB.out.drew⟩
      · have hf := Lib.hid (HBr.out.trans (show _ = false by rw [decide_eq_false hlt, Bool.and_false]))
        have hge : n - 1 ≤ p := by omega
        have hdg : decide (n - 1 ≤ p) = true := decide_eq_true hge
        gi_wp2
        gi_region_with_o (first | (refine ⟨trivial, ?_⟩; gi_at_call 71; refine (CallsIn.inRound l (callsIn_wide.2 (HP.out _))).mono ?_; rintro e w' ⟨rfl, rfl⟩) | (refine ⟨trivial, ?_⟩))
        all_goals gi_wp2
        all_goals exact ⟨((KeepsOthers.setCell _ _ _).trans (KeepsOthers.drew _)).from _, ⟨⟨rfl, by rw [HS.out]; exact hf.out⟩, C1.out.set _⟩, (HBw.out.setCell (p := ⟨w.heap.size + 1, 0, none⟩) (by show w.heap.size ≤ w.heap.size + 1; omega) _).drew⟩
  case done =>
    rintro D ys W hD rfl ⟨c1, hl, hB⟩ hK
    have hBW : Below w.heap.size w W := hB0.trans (hB.mono (by omega))
    have hDlt : D < W.heap.size := (Array.getElem?_eq_some_iff.1 hK).1
    have d1 := c1.cell
    have f1 := c1.frozen
    have C1 := Lib.hid c1
    have HK := Lib.hid hK
    have HL := Lib.hid hl
    clear c1 hK hl
    gi_wp2
    obtain ⟨W5, hW5⟩ : ∃ W5, W.setCell ⟨w.heap.size + 1, 0, none⟩ (.bool true) = W5 := ⟨_, rfl⟩
    have e1 : Boxed W5 (w.heap.size + 1) 4 (.bool true) := by rw [← hW5]; exact C1.out.set _
    have hK5 : W5.heap[D]? = some (.deferred (some [])) := by rw [← hW5]; exact (KeepsOthers.setCell _ _ _).same D _ HK.out rfl
    have hB5 : Below w.heap.size w W5 := by rw [← hW5]; exact hBW.setCell (p := ⟨w.heap.size + 1, 0, none⟩) (by show w.heap.size ≤ w.heap.size + 1; omega) _
    rw [hW5]
    clear hW5
    refine ⟨by simp, .inl ⟨_, _, rfl, run_takeDeferred hK5, ?_⟩⟩
    have g1 := (e1.kept (grownBy_putObj' W5 D (.deferred none)) (fun e => by cases e; omega)).cell
    refine ⟨.bool true, by simp [results, Try.f25, go_sem, g1], by rw [HL.out], hB5.trans (belowK_b (w := w) (Nat.le_refl _) W5 D _ _ (by omega) hK5 rfl rfl)⟩
  case stop =>
    rintro D c pre W hD hpre ⟨⟨⟨rfl, hl⟩, c1⟩, hB⟩ hK
    gi_wp2
    refine ⟨by simp, .inl ⟨_, _, rfl, run_takeDeferred hK, ?_⟩⟩
    have e1 := (c1.kept (grownBy_putObj' W D (.deferred none)) (fun e => by cases e; omega)).cell
    refine ⟨.bool false, by simp [results, Try.f25, go_sem, e1], by rw [brP_prefix hpre hl], hB.trans (belowK_b (w := w) (Nat.le_refl _) W D _ _ (by omega) hK rfl rfl)⟩

end Go.Proofs.Ytaaeiogdhmiaaaa

/- The contracts of BraidTimes and BraidGrow, the model's and the program's, of the model's BraidTurned and of the program's 'told'. -/

namespace Go.Proofs.Ytaaeiogdhmiaaaa
open Go.RowKit

theorem boxOf2 {W w1 : World} {k : Nat} {x y : Value} {t : TypeId} (hk : W.heap[k]? = some (.cells #[x, y] t (0, 0))) (hb : Below W.heap.size W w1) :
    (w1.cell? ⟨k, 0, none⟩ = some x ∧ w1.cell? ⟨k, 1, none⟩ = some y) ∧ w1.frozen? ⟨k, 0, none⟩ = false ∧ w1.frozen? ⟨k, 1, none⟩ = false := by
  have e := (hb.block k (Array.getElem?_eq_some_iff.1 hk).1).trans hk
  refine ⟨⟨?_, ?_⟩, ?_, ?_⟩ <;> simp [World.cell?, World.frozen?, e]

theorem iBraidIn_any (n : Int) (s : ByteArray) (b : Bool) (w : World) (hm : s.size ≤ maxLen) (hb : braidB n s = b) :
    Calls Try.prog 25 #[brV n s] w fun e w' => e = .returned (.bool b) ∧ Below w.heap.size w w' := by
  unfold maxLen at hm
  by_cases h1 : 2 ≤ n ∧ n ≤ 4
  · by_cases h2 : s.size ≤ 30
    · have e : braidB n s = brP n s.data.toList := by unfold braidB brP; rw [decide_eq_true h1, decide_eq_true h2]; rfl
      rw [← hb, e]
      exact (callsIn_wide (n := 30)).1 (braidIn_in 30 (by omega) n s w h1.1 h1.2 h2)
    · obtain rfl := (braidB_no2 h2 (n := n)).symm.trans hb
      clear hb
      obtain ⟨h1a, h1b⟩ := h1
      have hB : Below w.heap.size w (((w.alloc (.cells #[.int .i64 n, .string s] 26)).alloc (.cells #[.bool false] 4))) := ((Below.refl _ w).alloc (Nat.le_refl _) _).alloc (by simp) _
      have HB := Lib.hid hB
      clear hB
      refine (callsIn_wide (n := 30)).1 ?_
      refine callsIn_of_wp_marks Try.func25 rfl trivial ?_ rfl
      simp only [Try.ntmps25, List.size_toArray, List.length_cons, List.length_nil, Nat.reduceAdd, Nat.reduceSub, Array.replicate_succ, Array.replicate_zero, List.push_toArray, List.append_toArray, List.nil_append, List.cons_append]
      gi_wp2
      have b1 := (Boxed.new (w.alloc (.cells #[.int .i64 n, .string s] 26)) 4 (.bool false)).cell
      rw [World.size_alloc] at b1
      exact ⟨.bool false, by simp [results, Try.f25, go_sem, b1], rfl, HB.out⟩
  · obtain rfl := (braidB_no1 h1 (s := s)).symm.trans hb
    clear hb
    have hB : Below w.heap.size w (((w.alloc (.cells #[.int .i64 n, .string s] 26)).alloc (.cells #[.bool false] 4))) := ((Below.refl _ w).alloc (Nat.le_refl _) _).alloc (by simp) _
    have HB := Lib.hid hB
    clear hB
    have b1 := Lib.hid (Boxed.new (w.alloc (.cells #[.int .i64 n, .string s] 26)) 4 (.bool false)).cell
    rw [World.size_alloc] at b1
    refine (callsIn_wide (n := 30)).1 ?_
    refine callsIn_of_wp_marks Try.func25 rfl trivial ?_ rfl
    simp only [Try.ntmps25, List.size_toArray, List.length_cons, List.length_nil, Nat.reduceAdd, Nat.reduceSub, Array.replicate_succ, Array.replicate_zero, List.push_toArray, List.append_toArray, List.nil_append, List.cons_append]
    by_cases hlo : n < 2
    · have hd : decide (n < 2) = true := decide_eq_true hlo
      gi_wp2
      exact ⟨.bool false, by simp [results, Try.f25, go_sem, b1.out], rfl, HB.out⟩
    · have hhi : 4 < n := by omega
      have hd : decide (n < 2) = false := decide_eq_false hlo
      have hd2 : decide (4 < n) = true := decide_eq_true hhi
      gi_wp2
      exact ⟨.bool false, by simp [results, Try.f25, go_sem, b1.out], rfl, HB.out⟩

/-- A braid as an answer, and whether it is told. -/
def brR (b : Bool) (n : Int) (s : ByteArray) : Value := .tuple #[if b then brV n s else brV 0 { data := #[] }, .bool b]

theorem brR_no (n : Int) (s : ByteArray) : brR false n s = .tuple #[brV 0 { data := #[] }, .bool false] := rfl
theorem brR_yes (n : Int) (s : ByteArray) : brR true n s = .tuple #[brV n s, .bool true] := rfl

theorem brR_shape (b : Bool) (n : Int) (s : ByteArray) : ∃ m t, brR b n s = .tuple #[brV m t, .bool b] := by
  cases b with
  | true => exact ⟨n, s, rfl⟩
  | false => exact ⟨0, { data := #[] }, rfl⟩

def timesB (nA : Int) (sA : ByteArray) (nB : Int) (sB : ByteArray) : Bool := braidB nA sA && (braidB nB sB && (decide (nA = nB) && decide (sA.size + sB.size ≤ 30)))

theorem oneBox {w W : World} {n : Int} {s : ByteArray} {t : TypeId} (hW : w.alloc (.cells #[.int .i64 n, .string s] t) = W) :
    Below w.heap.size w W ∧ W.heap.size = w.heap.size + 1 ∧ W.heap[w.heap.size]? = some (.cells #[.int .i64 n, .string s] t (0, 0)) := by
  subst hW
  exact ⟨(Below.refl _ w).alloc (Nat.le_refl _) _, by simp, World.alloc_heap_new w _⟩

/-- The boxes of two braids and of an answer. -/
theorem threeBox {w W : World} {nA nB : Int} {sA sB : ByteArray} {t : TypeId} (hW : ((w.alloc (.cells #[.int .i64 nA, .string sA] t)).alloc (.cells #[.int .i64 nB, .string sB] t)).alloc (.cells #[.int .i64 0, .string { data := #[] }] t) = W) :
    Below w.heap.size w W ∧ W.heap.size = w.heap.size + 3 ∧ W.heap[w.heap.size]? = some (.cells #[.int .i64 nA, .string sA] t (0, 0)) ∧ W.heap[w.heap.size + 1]? = some (.cells #[.int .i64 nB, .string sB] t (0, 0)) ∧ W.heap[w.heap.size + 1 + 1]? = some (.cells #[.int .i64 0, .string { data := #[] }] t (0, 0)) := by
  subst hW
  refine ⟨(((Below.refl _ w).alloc (Nat.le_refl _) _).alloc (by simp) _).alloc (by simp; omega) _, by simp, ?_, ?_, ?_⟩
  · rw [Below.heap_alloc _ _ _ (by simp; omega), Below.heap_alloc _ _ _ (by simp)]; exact World.alloc_heap_new w _
  · rw [Below.heap_alloc _ _ _ (by simp)]
    have h := World.alloc_heap_new (w.alloc (.cells #[.int .i64 nA, .string sA] t)) (.cells #[.int .i64 nB, .string sB] t)
    rw [World.size_alloc] at h; exact h
  · have h := World.alloc_heap_new ((w.alloc (.cells #[.int .i64 nA, .string sA] t)).alloc (.cells #[.int .i64 nB, .string sB] t)) (.cells #[.int .i64 0, .string { data := #[] }] t)
    rw [World.size_alloc, World.size_alloc] at h; exact h
/-- The boxes of a braid and of an answer. -/
theorem twoBox {w W : World} {n : Int} {s : ByteArray} {t : TypeId} (hW : (w.alloc (.cells #[.int .i64 n, .string s] t)).alloc (.cells #[.int .i64 0, .string { data := #[] }] t) = W) :
    Below w.heap.size w W ∧ W.heap.size = w.heap.size + 2 ∧ W.heap[w.heap.size]? = some (.cells #[.int .i64 n, .string s] t (0, 0)) ∧ W.heap[w.heap.size + 1]? = some (.cells #[.int .i64 0, .string { data := #[] }] t (0, 0)) := by
  subst hW
  refine ⟨((Below.refl _ w).alloc (Nat.le_refl _) _).alloc (by simp) _, by simp, ?_, ?_⟩
  · rw [Below.heap_alloc _ _ _ (by simp)]; exact World.alloc_heap_new w _
  · have h := World.alloc_heap_new (w.alloc (.cells #[.int .i64 n, .string s] t)) (.cells #[.int .i64 0, .string { data := #[] }] t)
    rw [World.size_alloc] at h; exact h

theorem below_two {w V : World} {k : Nat} (h : Below w.heap.size w V) (hk : w.heap.size ≤ k) (x y : Value) : Below w.heap.size w ((V.setCell ⟨k, 0, none⟩ x).setCell ⟨k, 1, none⟩ y) :=
  (h.setCell (p := ⟨k, 0, none⟩) hk x).setCell (p := ⟨k, 1, none⟩) hk y

set_option maxRecDepth 100000 in
set_option maxHeartbeats 2000000 in
theorem sBraidTimes_any (nA nB : Int) (sA sB : ByteArray) (w : World) (hA : sA.size ≤ maxLen) (hB : sB.size ≤ maxLen) :
    Calls Try.prog 26 #[brV nA sA, brV nB sB] w fun e w' => e = .returned (brR (timesB nA sA nB sB) nA (sA ++ sB)) ∧ Below w.heap.size w w' := by
  obtain ⟨W, hW⟩ : ∃ W, ((w.alloc (.cells #[.int .i64 nA, .string sA] 26)).alloc (.cells #[.int .i64 nB, .string sB] 26)).alloc (.cells #[.int .i64 0, .string { data := #[] }] 26) = W := ⟨_, rfl⟩
  have HX := Lib.hid (threeBox hW)
  have HW := Lib.hid hW
  clear hW
  have hsz := HX.out.2.1
  obtain ⟨bA, hbA⟩ : ∃ b, braidB nA sA = b := ⟨_, rfl⟩
  obtain ⟨bB, hbB⟩ : ∃ b, braidB nB sB = b := ⟨_, rfl⟩
  have HA := Lib.hid (fun w => sBraidIn_any nA sA bA w hA hbA)
  have HB := Lib.hid (fun w => sBraidIn_any nB sB bB w hB hbB)
  have HbA := Lib.hid hbA
  have HbB := Lib.hid hbB
  have HT : Hid (timesB nA sA nB sB = (bA && (bB && (decide (nA = nB) && decide (sA.size + sB.size ≤ 30))))) := Lib.hid (by unfold timesB; rw [hbA, hbB])
  clear hbA hbB
  obtain ⟨⟨c0, c1⟩, _, _⟩ := boxOf2 HX.out.2.2.1 (Below.refl _ W)
  go_enter Try.func26, Try.ntmps26
  go_wp2_with fail
  rw [HW.out]
  refine (HA.out W).mono ?_
  rintro e w1 ⟨rfl, hb1⟩
  clear c0 c1
  obtain ⟨⟨d0, d1⟩, f0, f1⟩ := boxOf2 HX.out.2.2.2.2 hb1
  obtain ⟨⟨c0, c1⟩, _, _⟩ := boxOf2 HX.out.2.2.2.1 hb1
  obtain ⟨⟨a0, a1⟩, _, _⟩ := boxOf2 HX.out.2.2.1 hb1
  have HB1 := Lib.hid hb1
  clear hb1
  cases bA with
  | false =>
    have HBX := Lib.hid (HX.out.1.trans (HB1.out.mono HX.out.1.size))
    go_wp2
    refine bodyPost_ret (v := brR false nA (sA ++ sB)) ?_ rfl ⟨by rw [HT.out]; rfl, below_two (HBX.out) (by omega) _ _⟩
    simp [results, Try.results26, go_sem, d0, d1, brR]

  | true =>
    go_wp2_with fail
    refine (HB.out w1).mono ?_
    rintro e w2 ⟨rfl, hb2⟩
    have HB2 := Lib.hid (HB1.out.trans (hb2.mono HB1.out.size))
    have HBX := Lib.hid (HX.out.1.trans (HB2.out.mono HX.out.1.size))
    clear hb2 d0 d1 f0 f1 c0 c1 a0 a1
    obtain ⟨⟨d0, d1⟩, f0, f1⟩ := boxOf2 HX.out.2.2.2.2 HB2.out
    obtain ⟨⟨c0, c1⟩, _, _⟩ := boxOf2 HX.out.2.2.2.1 HB2.out
    obtain ⟨⟨a0, a1⟩, _, _⟩ := boxOf2 HX.out.2.2.1 HB2.out
    cases bB with
    | false =>
      go_wp2
      refine bodyPost_ret (v := brR false nA (sA ++ sB)) ?_ rfl ⟨by rw [HT.out]; rfl, below_two (HBX.out) (by omega) _ _⟩
      simp [results, Try.results26, go_sem, d0, d1, brR]

    | true =>
      obtain ⟨_, hsA, _⟩ := braid_all HbA.out
      obtain ⟨_, hsB, _⟩ := braid_all HbB.out
      by_cases hn : nA = nB
      · subst hn
        have hne : (nA != nA) = false := by simp
        by_cases hl : sA.size + sB.size ≤ 30
        · have hd : decide ((30 : Int) < (sA.size : Int) + (sB.size : Int)) = false := decide_eq_false (by omega)
          have HF : Hid (timesB nA sA nA sB = true) := Lib.hid (by rw [HT.out, decide_eq_true rfl, decide_eq_true hl]; rfl)
          go_wp2
          refine bodyPost_ret (v := brR true nA (sA ++ sB)) ?_ rfl ⟨by rw [HF.out], below_two (HBX.out) (by omega) _ _⟩
          simp [results, Try.results26, go_sem, d0, d1, brR]

        · have hd : decide ((30 : Int) < (sA.size : Int) + (sB.size : Int)) = true := decide_eq_true (by omega)
          have HF : Hid (timesB nA sA nA sB = false) := Lib.hid (by rw [HT.out, decide_eq_false hl]; simp)
          go_wp2
          refine bodyPost_ret (v := brR false nA (sA ++ sB)) ?_ rfl ⟨by rw [HF.out], below_two (HBX.out) (by omega) _ _⟩
          simp [results, Try.results26, go_sem, d0, d1, brR]

      · have hne : (nA != nB) = true := by simpa using hn
        have HF : Hid (timesB nA sA nB sB = false) := Lib.hid (by rw [HT.out, decide_eq_false hn]; rfl)
        go_wp2
        refine bodyPost_ret (v := brR false nA (sA ++ sB)) ?_ rfl ⟨by rw [HF.out], below_two (HBX.out) (by omega) _ _⟩
        simp [results, Try.results26, go_sem, d0, d1, brR]

theorem braidB_append {nA : Int} {sA sB : ByteArray} (hA : braidB nA sA = true) (hB : braidB nA sB = true) : braidB nA (sA ++ sB) = decide (sA.size + sB.size ≤ 30) := by
  obtain ⟨h1, _, h3⟩ := braid_all hA
  obtain ⟨_, _, h4⟩ := braid_all hB
  by_cases hl : sA.size + sB.size ≤ 30
  · rw [decide_eq_true hl]
    refine braid_of_all h1 (by rw [ByteArray.size_append]; exact hl) fun c hc => ?_
    rw [append_toList] at hc
    rcases List.mem_append.1 hc with h | h
    · exact h3 c h
    · exact h4 c h
  · rw [decide_eq_false hl]
    exact braidB_no2 (by rw [ByteArray.size_append]; exact hl)

set_option maxRecDepth 100000 in
set_option maxHeartbeats 2000000 in
theorem toldB_any (n : Int) (s : ByteArray) (w : World) (hs : s.size ≤ maxLen) :
    Calls Try.prog 72 #[brV n s] w fun e w' => e = .returned (brR (braidB n s) n s) ∧ Below w.heap.size w w' := by
  obtain ⟨W, hW⟩ : ∃ W, (w.alloc (.cells #[.int .i64 n, .string s] 26)).alloc (.cells #[.int .i64 0, .string { data := #[] }] 26) = W := ⟨_, rfl⟩
  have HX := Lib.hid (twoBox hW)
  have HW := Lib.hid hW
  clear hW
  have hsz := HX.out.2.1
  obtain ⟨b, hb⟩ : ∃ b, braidB n s = b := ⟨_, rfl⟩
  have HA := Lib.hid (fun w => iBraidIn_any n s b w hs hb)
  have HB := Lib.hid hb
  clear hb
  obtain ⟨⟨c0, c1⟩, _, _⟩ := boxOf2 HX.out.2.2.1 (Below.refl _ W)
  go_enter Try.func72, Try.ntmps72
  go_wp2_with fail
  rw [HW.out]
  refine (HA.out W).mono ?_
  rintro e w1 ⟨rfl, hb1⟩
  clear c0 c1
  obtain ⟨⟨d0, d1⟩, f0, f1⟩ := boxOf2 HX.out.2.2.2 hb1
  obtain ⟨⟨c0, c1⟩, _, _⟩ := boxOf2 HX.out.2.2.1 hb1
  have HBX := Lib.hid (HX.out.1.trans (hb1.mono HX.out.1.size))
  clear hb1
  cases b with
  | false =>
    go_wp2
    refine bodyPost_ret (v := brR false n s) ?_ rfl ⟨by rw [HB.out], below_two HBX.out (by omega) _ _⟩
    simp [results, Try.results72, go_sem, d0, d1, brR]
  | true =>
    go_wp2
    refine bodyPost_ret (v := brR true n s) ?_ rfl ⟨by rw [HB.out], below_two HBX.out (by omega) _ _⟩
    simp [results, Try.results72, go_sem, d0, d1, brR]

set_option maxRecDepth 100000 in
set_option maxHeartbeats 2000000 in
theorem iBraidTimes_any (nA nB : Int) (sA sB : ByteArray) (w : World) (hA : sA.size ≤ maxLen) (hB : sB.size ≤ maxLen) :
    Calls Try.prog 27 #[brV nA sA, brV nB sB] w fun e w' => e = .returned (brR (timesB nA sA nB sB) nA (sA ++ sB)) ∧ Below w.heap.size w w' := by
  obtain ⟨W, hW⟩ : ∃ W, ((w.alloc (.cells #[.int .i64 nA, .string sA] 26)).alloc (.cells #[.int .i64 nB, .string sB] 26)).alloc (.cells #[.int .i64 0, .string { data := #[] }] 26) = W := ⟨_, rfl⟩
  have HX := Lib.hid (threeBox hW)
  have HW := Lib.hid hW
  clear hW
  have hsz := HX.out.2.1
  obtain ⟨bA, hbA⟩ : ∃ b, braidB nA sA = b := ⟨_, rfl⟩
  obtain ⟨bB, hbB⟩ : ∃ b, braidB nB sB = b := ⟨_, rfl⟩
  have HA := Lib.hid (fun w => iBraidIn_any nA sA bA w hA hbA)
  have HB := Lib.hid (fun w => iBraidIn_any nB sB bB w hB hbB)
  have HbA := Lib.hid hbA
  have HbB := Lib.hid hbB
  have HT : Hid (timesB nA sA nB sB = (bA && (bB && (decide (nA = nB) && decide (sA.size + sB.size ≤ 30))))) := Lib.hid (by unfold timesB; rw [hbA, hbB])
  clear hbA hbB
  obtain ⟨⟨c0, c1⟩, _, _⟩ := boxOf2 HX.out.2.2.1 (Below.refl _ W)
  go_enter Try.func27, Try.ntmps27
  go_wp2_with fail
  rw [HW.out]
  refine (HA.out W).mono ?_
  rintro e w1 ⟨rfl, hb1⟩
  clear c0 c1
  obtain ⟨⟨d0, d1⟩, f0, f1⟩ := boxOf2 HX.out.2.2.2.2 hb1
  obtain ⟨⟨c0, c1⟩, _, _⟩ := boxOf2 HX.out.2.2.2.1 hb1
  obtain ⟨⟨a0, a1⟩, _, _⟩ := boxOf2 HX.out.2.2.1 hb1
  have HB1 := Lib.hid hb1
  clear hb1
  cases bA with
  | false =>
    have HBX := Lib.hid (HX.out.1.trans (HB1.out.mono HX.out.1.size))
    go_wp2
    refine bodyPost_ret (v := brR false nA (sA ++ sB)) ?_ rfl ⟨by rw [HT.out]; rfl, below_two (HBX.out) (by omega) _ _⟩
    simp [results, Try.results27, go_sem, d0, d1, brR]

  | true =>
    go_wp2_with fail
    refine (HB.out w1).mono ?_
    rintro e w2 ⟨rfl, hb2⟩
    have HB2 := Lib.hid (HB1.out.trans (hb2.mono HB1.out.size))
    have HBX := Lib.hid (HX.out.1.trans (HB2.out.mono HX.out.1.size))
    clear hb2 d0 d1 f0 f1 c0 c1 a0 a1
    obtain ⟨⟨d0, d1⟩, f0, f1⟩ := boxOf2 HX.out.2.2.2.2 HB2.out
    obtain ⟨⟨c0, c1⟩, _, _⟩ := boxOf2 HX.out.2.2.2.1 HB2.out
    obtain ⟨⟨a0, a1⟩, _, _⟩ := boxOf2 HX.out.2.2.1 HB2.out
    cases bB with
    | false =>
      go_wp2
      refine bodyPost_ret (v := brR false nA (sA ++ sB)) ?_ rfl ⟨by rw [HT.out]; rfl, below_two (HBX.out) (by omega) _ _⟩
      simp [results, Try.results27, go_sem, d0, d1, brR]

    | true =>
      obtain ⟨_, hsA, _⟩ := braid_all HbA.out
      obtain ⟨_, hsB, _⟩ := braid_all HbB.out
      by_cases hn : nA = nB
      · subst hn
        have hne : (nA != nA) = false := by simp
        have HF : Hid (timesB nA sA nA sB = braidB nA (sA ++ sB)) := Lib.hid (by rw [HT.out, braidB_append HbA.out HbB.out, decide_eq_true rfl]; rfl)
        have hsz2 : (sA ++ sB).size ≤ maxLen := by rw [ByteArray.size_append]; unfold maxLen; omega
        have HTD := Lib.hid (fun w => toldB_any nA (sA ++ sB) w hsz2)
        clear hsz2
        go_wp2_with fail
        refine (HTD.out w2).mono ?_
        rintro e w3 ⟨rfl, hb3⟩
        have HB3 := Lib.hid (HB2.out.trans (hb3.mono HB2.out.size))
        clear HBX
        have HBX := Lib.hid (HX.out.1.trans (HB3.out.mono HX.out.1.size))
        clear hb3 d0 d1 f0 f1
        obtain ⟨⟨d0, d1⟩, f0, f1⟩ := boxOf2 HX.out.2.2.2.2 HB3.out
        cases hb : braidB nA (sA ++ sB) with
        | true =>
          have HV := Lib.hid hb
          rw [brR_yes]
          clear hb
          go_wp2
          refine bodyPost_ret (v := brR true nA (sA ++ sB)) ?_ rfl ⟨by rw [HF.out, HV.out], below_two (HBX.out) (by omega) _ _⟩
          simp [results, Try.results27, go_sem, d0, d1, brR]

        | false =>
          have HV := Lib.hid hb
          rw [brR_no]
          clear hb
          go_wp2
          refine bodyPost_ret (v := brR false nA (sA ++ sB)) ?_ rfl ⟨by rw [HF.out, HV.out], below_two (HBX.out) (by omega) _ _⟩
          simp [results, Try.results27, go_sem, d0, d1, brR]

      · have hne : (nA != nB) = true := by simpa using hn
        have HF : Hid (timesB nA sA nB sB = false) := Lib.hid (by rw [HT.out, decide_eq_false hn]; rfl)
        go_wp2
        refine bodyPost_ret (v := brR false nA (sA ++ sB)) ?_ rfl ⟨by rw [HF.out], below_two (HBX.out) (by omega) _ _⟩
        simp [results, Try.results27, go_sem, d0, d1, brR]

end Go.Proofs.Ytaaeiogdhmiaaaa

/- A text of one byte out of a slice of one byte. -/

namespace Go.Proofs.Ytaaeiogdhmiaaaa
open Go.RowKit

theorem conv_byte (c : UInt8) (v : Int) (hv : (c.toNat : Int) = v) (V : World) : (convert 62 9 (.slice (some ⟨V.heap.size, 0, none⟩) 1 1)).run Try.prog (V.alloc (.cells #[.int .u8 v] 5)) = .ok (.string (bstr [c])) (V.alloc (.cells #[.int .u8 v] 5)) := by
  have := run_convert_bytes_back (P := Try.prog) (V.alloc (.cells #[.int .u8 v] 5)) 62 9 5 ⟨V.heap.size, 0, none⟩ 1 [c] Try.underlying62 Try.underlying5 Try.underlying9 (fun j hj => by
    have hj0 : j = 0 := by simp at hj; exact hj
    subst hj0
    show (V.alloc _).cell? ((⟨V.heap.size, 0, none⟩ : Addr).add 0) = some (.int .u8 (c.toNat : Int))
    rw [hv]
    exact cell_one_new _ _ _ 0 _ rfl)
  exact this

end Go.Proofs.Ytaaeiogdhmiaaaa

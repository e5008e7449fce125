/- What the laws' proofs stand on, part 3 of 3. -/
import Derived.Lib.SliceRun
import Derived.Deep.AppendLies
import Derived.Shelf.SlMaps.Clone
import Derived.Deep.SlicePairs
import Derived.ChangeArms
import Derived.ProofKit
import Derived.Test.YtmbffbjopehllaaBa
import Derived.Test.YtmbffbjopehllaaBb

/- The contracts of the laws' own helpers that mark memory and look the marks up. -/

namespace Go.Proofs.Ytmbffbjopehllaa
open Go.RowKit Go.Shelf

/-- A term is stored: its two cells. -/
theorem set_terms (us : List Tm) (i : Nat) (t : Tm) (hi : i < us.length) : ((termsV us).set (i * 2) (.int .i64 t.c)).set (i * 2 + 1) (.string t.s) = termsV (us.set i t) := by
  have e : us = us.take i ++ us[i] :: us.drop (i + 1) := by rw [List.getElem_cons_drop]; exact (List.take_append_drop i us).symm
  have hl : (termsV (us.take i)).length = i * 2 := by rw [termsV_len, List.length_take, Nat.min_eq_left (by omega)]
  have hset : us.set i t = us.take i ++ t :: us.drop (i + 1) := by rw [List.set_eq_take_append_cons_drop, if_pos hi]
  rw [hset]
  have e2 : termsV us = termsV (us.take i) ++ .int .i64 us[i].c :: .string us[i].s :: termsV (us.drop (i + 1)) := by
    rw [← termsV_cons, ← termsV_append, ← e]
  rw [e2, termsV_append, termsV_cons, List.set_append_right _ _ (by omega), List.set_append_right _ _ (by omega), hl, Nat.sub_self, show i * 2 + 1 - i * 2 = 1 by omega]
  rfl

/-- The text of a mark. -/
def mkB (m : Nat) (t : ByteArray) : ByteArray :=
  if _h : m = 0 then t else mkB (m / 10) (⟨#[UInt8.ofNat (48 + m % 10)]⟩ ++ t)
termination_by m
decreasing_by omega
theorem mkB_zero (t : ByteArray) : mkB 0 t = t := by rw [mkB]; simp
theorem mkB_step {m : Nat} (h : m ≠ 0) (t : ByteArray) : mkB (m / 10) (⟨#[UInt8.ofNat (48 + m % 10)]⟩ ++ t) = mkB m t := by conv => rhs; rw [mkB, dif_neg h]
def mkS (k : Nat) : ByteArray := ⟨#[109]⟩ ++ mkB k ⟨#[]⟩

set_option maxRecDepth 100000 in
set_option maxHeartbeats 1000000 in
theorem markText_any (k : Nat) (w : World) (hk0 : 0 < k) (hk : k ≤ 100000000) :
    Calls Try.prog 49 #[.int .i64 k] w fun e w' => e = .returned (.string (mkS k)) ∧ Below w.heap.size w w' := by
  have hk1 : ¬ k = 0 := by omega
  have hk2 : decide (k = 0) = false := decide_eq_false hk1
  go_enter Try.func49, Try.ntmps49
  go_wp2
  go_loopw [0, 3] (fun p s wr => ∃ (m : Nat) (t : ByteArray), p = .int .i64 m ∧ s = .string t ∧ Hid (mkB m t = mkB k ⟨#[]⟩) ∧ t.size + m ≤ k ∧ Hid (Below w.heap.size w wr)) (fun p _ _ => (intOf p).toNat)
  case atStart => exact ⟨k, ⟨#[]⟩, rfl, rfl, Lib.hid rfl, Nat.le_of_eq (Nat.zero_add k), Lib.hid (Below.refl _ _)⟩
  case round =>
    obtain ⟨m, t, rfl, rfl, HM, hsz, HB⟩ := hrel
    by_cases hm : m = 0
    · subst hm
      go_wp2
      go_ret
      refine ⟨?_, HB.out⟩
      rw [mkS, ← HM.out, mkB_zero]
      rfl
    · have hm0 : 0 < m := by omega
      have hlt : m % 10 < 10 := Nat.mod_lt _ (by omega)
      have hval : ((UInt8.ofNat (48 + m % 10)).toNat : Int) = 48 + (m : Int) % 10 := by
        rw [UInt8.toNat_ofNat']
        rw [Nat.mod_eq_of_lt (by omega)]
        omega
      have hconv : (convert 40 9 (.slice (some ⟨wr.heap.size, 0, none⟩) 1 1)).run Try.prog (wr.alloc (.cells #[.int .u8 (48 + (m : Int) % 10)] 5)) = .ok (.string ⟨#[UInt8.ofNat (48 + m % 10)]⟩) (wr.alloc (.cells #[.int .u8 (48 + (m : Int) % 10)] 5)) := by
        have := run_convert_bytes_back (P := Try.prog) (wr.alloc (.cells #[.int .u8 (48 + (m : Int) % 10)] 5)) 40 9 5 ⟨wr.heap.size, 0, none⟩ 1 [UInt8.ofNat (48 + m % 10)] Try.underlying40 Try.underlying5 Try.underlying9 (fun j hj => by
          have hj0 : j = 0 := by simp at hj; exact hj
          subst hj0
          show (wr.alloc _).cell? ((⟨wr.heap.size, 0, none⟩ : Addr).add 0) = some (.int .u8 ((UInt8.ofNat (48 + m % 10)).toNat : Int))
          rw [hval]
          exact cell_one_new _ _ _ 0 _ rfl)
        exact this
      have hrange : 0 ≤ 48 + (m : Int) % 10 ∧ 48 + (m : Int) % 10 ≤ 255 := by omega
      have hsz2 : ((⟨#[UInt8.ofNat (48 + m % 10)]⟩ : ByteArray) ++ t).size = 1 + t.size := by simp [ByteArray.size_append]; rfl
      obtain ⟨c, hc⟩ : ∃ c : ByteArray, (⟨#[UInt8.ofNat (48 + m % 10)]⟩ : ByteArray) = c := ⟨_, rfl⟩
      rw [hc] at hconv hsz2
      have HCC := Lib.hid hc
      have HVAL := Lib.hid hval
      have HSZ2 := Lib.hid hsz2
      have hcs : c.size = 1 := by rw [← hc]; rfl
      have hnot : ¬ 9223372036854775807 < c.size + t.size := by omega
      clear hc hval hsz2 hcs
      go_wp2
      go_roundw
      case rel =>
        refine ⟨m / 10, c ++ t, by go_num, rfl, Lib.hid ?_, by rw [HSZ2.out]; omega, Lib.hid (HB.out.alloc HB.out.size _)⟩
        rw [← HM.out, ← HCC.out]
        exact mkB_step hm t
      case measure => simp [intOf]; omega

end Go.Proofs.Ytmbffbjopehllaa

/- The contract of slices.DeleteFunc at 'isZero'. -/

namespace Go.Proofs.Ytmbffbjopehllaa
open Go.RowKit Go.Shelf

/-- A shorter slice of the same row. -/
theorem ownsRow_shorter {w : World} {base : Nat} {e : TypeId} {size g n k cap : Nat} {xs : List Value} (h : w.ownsRow base e size (.slice (some ⟨g, 0, none⟩) n cap) n xs) (hk : k ≤ n) :
    w.ownsRow base e size (.slice (some ⟨g, 0, none⟩) k cap) k (xs.take (k * size)) := by
  have hks : k * size ≤ n * size := Nat.mul_le_mul_right _ hk
  rcases h.2 with ⟨h', _⟩ | ⟨g', cap', cur, h', hb, hg, hnc, hcm, hcs, htake⟩
  · simp at h'
  · simp only [Value.slice.injEq, Option.some.injEq, Addr.mk.injEq, and_true, true_and] at h'
    obtain ⟨rfl, rfl⟩ := h'
    refine ⟨by rw [List.length_take, h.1]; omega, .inr ⟨g, cap, cur, rfl, hb, hg, by omega, hcm, hcs, ?_⟩⟩
    rw [← htake, List.take_take, Nat.min_eq_left hks]
/-- Stores behind the first m cells. -/
theorem ownsRow_behind {base : Nat} {e : TypeId} {size g n cap m : Nat} : ∀ (vs : List Value) (o : Nat) {w : World} {xs : List Value}, w.ownsRow base e size (.slice (some ⟨g, 0, none⟩) n cap) n xs → m ≤ o →
    ∃ ys, (w.setCells g o vs).ownsRow base e size (.slice (some ⟨g, 0, none⟩) n cap) n ys ∧ ys.take m = xs.take m
  | [], _, _, xs, h, _ => ⟨xs, h, rfl⟩
  | v :: r, o, w, xs, h, hm => by
    obtain ⟨ys, h1, h2⟩ := ownsRow_behind (m := m) r (o + 1) (h.stored o v).1 (by omega)
    refine ⟨ys, h1, h2.trans ?_⟩
    rw [List.take_set, List.set_eq_of_length_le (by rw [List.length_take]; omega)]
theorem below_cells {B g : Nat} (hg : B ≤ g) : ∀ (vs : List Value) (o : Nat) {w0 w : World}, Below B w0 w → Below B w0 (w.setCells g o vs)
  | [], _, _, _, h => h
  | v :: r, o, _, _, h => below_cells hg r (o + 1) (h.setCell (p := ⟨g, o, none⟩) hg v)

/-- 'clear' at a slice of terms. -/
theorem clear_terms {P : Program} (w : World) (t : TypeId) (ht : P.underlying t = some (.slice TI)) (hv : ∀ w, (zeroValue TI).run P w = .ok (.agg #[.int .i64 0, .string ByteArray.empty]) w) (b o n c : Nat) (hn : 0 < n)
    (hc : ∀ j, j < n * 2 → (w.cell? ⟨b, o + j, none⟩).isSome = true) (hf : ∀ j, w.frozen? ⟨b, j, none⟩ = false) :
    ∃ vs, ∀ ty, (Builtin.clear_ #[t] ty #[.slice (some ⟨b, o, none⟩) n c]).run P w = .ok (.tuple #[]) (w.setCells b o vs) := by
  refine ⟨(Builtin.zeroCells #[.int .i64 0, .string ByteArray.empty] n).toList, fun ty => ?_⟩
  have hlen : (Builtin.zeroCells #[.int .i64 0, .string ByteArray.empty] n).toList.length = n * 2 := by simp [Builtin.zeroCells]
  have hst := run_storeCells_cells (P := P) b o (Builtin.zeroCells #[.int .i64 0, .string ByteArray.empty] n).toList 0 w (by rw [hlen]; simpa using hc) (fun j _ => hf _) (by
    intro u hu
    simp only [Builtin.zeroCells, Array.toList_map, List.mem_map] at hu
    obtain ⟨i, _, rfl⟩ := hu
    have h2 : i % 2 < 2 := Nat.mod_lt _ (by omega)
    rcases (by omega : i % 2 = 0 ∨ i % 2 = 1) with h | h
    · simp [h, Value.oneCell']
    · simp [h, Value.oneCell'])
  simp only [Nat.add_zero] at hst
  obtain ⟨m, rfl⟩ : ∃ m, n = m + 1 := ⟨n - 1, by omega⟩
  simp [Builtin.clear_, run_underlying ht, hv, Value.cells, hst]

abbrev nzT (ts : List Tm) : List Tm := ts.filter fun t => !(t.c == 0)
theorem nzT_all {ts : List Tm} (h : ∀ j (h : j < ts.length), ts[j].c ≠ 0) : nzT ts = ts := by
  refine List.filter_eq_self.2 fun t ht => ?_
  obtain ⟨j, hj, rfl⟩ := List.getElem_of_mem ht
  simpa using h j hj
theorem nzT_first {ts : List Tm} {i : Nat} (hi : i < ts.length) (h0 : ts[i].c = 0) (h : ∀ j (h : j < i), ts[j].c ≠ 0) : nzT (ts.take (i + 1)) = ts.take i := by
  rw [List.take_add_one, List.getElem?_eq_getElem hi]
  unfold nzT
  rw [List.filter_append]
  have h1 : (ts.take i).filter (fun t => !(t.c == 0)) = ts.take i := nzT_all fun j hj => by
    rw [List.length_take] at hj
    rw [List.getElem_take]
    exact h j (by omega)
  rw [h1]
  simp [h0]
theorem nzT_step {ts : List Tm} {j : Nat} {t : Tm} (hj : j < ts.length) (ht : ts[j] = t) : nzT (ts.take (j + 1)) = nzT (ts.take j) ++ (if t.c = 0 then [] else [t]) := by
  rw [List.take_add_one, List.getElem?_eq_getElem hj]
  unfold nzT
  rw [List.filter_append, ht]
  by_cases h : t.c = 0 <;> simp [h]
theorem nzT_len (ts : List Tm) (j : Nat) : (nzT (ts.take j)).length ≤ j := Nat.le_trans (List.length_filter_le _ _) (by rw [List.length_take]; omega)

/-- The terms kept so far, and the rest as it was. -/
structure Kept (base : Nat) (w : World) (g cap n i j : Nat) (ts us : List Tm) : Prop where
  own : w.ownsRow base TI 2 (.slice (some ⟨g, 0, none⟩) n cap) n (termsV us)
  len : us.length = n
  head : us.take i = nzT (ts.take j)
  tail : us.drop j = ts.drop j
  hi : i < j
  hj : j ≤ n
theorem Kept.below {base : Nat} {w w' : World} {g cap n i j : Nat} {ts us : List Tm} (h : Kept base w g cap n i j ts us) (hb : Below w.heap.size w w') : Kept base w' g cap n i j ts us :=
  ⟨by have := h.own; rw [← h.len] at this ⊢; exact OwnT.below this hb, h.len, h.head, h.tail, h.hi, h.hj⟩
theorem Kept.at_ {base : Nat} {w : World} {g cap n i j : Nat} {ts us : List Tm} (h : Kept base w g cap n i j ts us) (hjn : j < n) (hz : j < ts.length) :
    w.cell? ⟨g, j * 2, none⟩ = some (.int .i64 ts[j].c) ∧ w.cell? ⟨g, j * 2 + 1, none⟩ = some (.string ts[j].s) := by
  have hta := termsAt_of_owns (ts := us) (g := g) (cap := cap) rfl (by rw [h.len]; exact h.own)
  have hju : j < us.length := by rw [h.len]; exact hjn
  obtain ⟨h1, h2⟩ := hta.2 j hju
  have e : us[j] = ts[j] := by
    have := congrArg (·[0]?) h.tail
    simp only [List.getElem?_drop, Nat.add_zero, List.getElem?_eq_getElem hju, List.getElem?_eq_getElem hz] at this
    exact Option.some.inj this
  rw [e] at h1 h2
  rw [add_off] at h1 h2
  exact ⟨h1, h2⟩
theorem Kept.keep {base : Nat} {w : World} {g cap n i j : Nat} {ts us : List Tm} {t : Tm} (h : Kept base w g cap n i j ts us) (hz : j < ts.length) (hjn : j < n) (ht : ts[j] = t) (hc : t.c ≠ 0) :
    Kept base ((w.setCell ⟨g, i * 2, none⟩ (.int .i64 t.c)).setCell ⟨g, i * 2 + 1, none⟩ (.string t.s)) g cap n (i + 1) (j + 1) ts (us.set i t) := by
  have hiu : i < us.length := by rw [h.len]; have := h.hi; omega
  refine ⟨?_, by rw [List.length_set]; exact h.len, ?_, ?_, by have := h.hi; omega, by omega⟩
  · rw [← set_terms us i t hiu]
    exact ((h.own.stored (i * 2) (.int .i64 t.c)).1.stored (i * 2 + 1) (.string t.s)).1
  · rw [nzT_step hz ht, if_neg hc, ← h.head, List.take_add_one, List.getElem?_set_self hiu, List.take_set, List.set_eq_of_length_le (by rw [List.length_take]; omega)]
    rfl
  · have := congrArg (List.drop 1) h.tail
    rw [List.drop_drop, List.drop_drop] at this
    rw [List.drop_set, if_pos (by have := h.hi; omega)]
    exact this
theorem Kept.skip {base : Nat} {w : World} {g cap n i j : Nat} {ts us : List Tm} {t : Tm} (h : Kept base w g cap n i j ts us) (hz : j < ts.length) (hjn : j < n) (ht : ts[j] = t) (hc : t.c = 0) : Kept base w g cap n i (j + 1) ts us := by
  refine ⟨h.own, h.len, ?_, ?_, by have := h.hi; omega, by omega⟩
  · rw [nzT_step hz ht, if_pos hc, List.append_nil]; exact h.head
  · have := congrArg (List.drop 1) h.tail
    rw [List.drop_drop, List.drop_drop] at this
    exact this

end Go.Proofs.Ytmbffbjopehllaa

/- The contracts of the program's 'toldSum' and 'SumOf'. -/

namespace Go.Proofs.Ytmbffbjopehllaa
open Go.RowKit Go.Shelf

/-- What a call of the program answers that tells a sum. -/
def ITold (w : World) (b : Bool) (us : List Tm) (e : Ending) (w' : World) : Prop := (∃ v', e = .returned (.tuple #[v', .bool b]) ∧ OwnT w.heap.size w' v' (cond b us [])) ∧ Below w.heap.size w w'
theorem ownNil (base : Nat) (w : World) : OwnT base w (.slice none 0 0) [] := ⟨rfl, .inl ⟨rfl, rfl⟩⟩
/-- Terms that may be gathered: not too many, not too great, their words of whatever length. -/
theorem filter_small {ts : List Tm} {p : Tm → Bool} (h : SmallT ts) : SmallT (ts.filter p) :=
  ⟨Nat.le_trans (List.length_filter_le _ _) h.1, fun t ht => h.2 t (List.mem_filter.1 ht).1⟩
theorem push_words {acc : List Tm} {t : Tm} {M : Nat} (h : ∀ u ∈ acc, u.s.size ≤ M) (ht : t.s.size ≤ M) : ∀ u ∈ pushT acc t, u.s.size ≤ M := by
  intro u hu
  rcases List.eq_nil_or_concat acc with rfl | ⟨b, l, rfl⟩
  · rw [push_nil] at hu; rw [List.mem_singleton.1 hu]; exact ht
  · rw [List.concat_eq_append] at *
    rw [push_last] at hu
    have hl := h l (by simp)
    split at hu
    · rcases List.mem_append.1 hu with hu | hu
      · exact h u (by simp [hu])
      · rw [List.mem_singleton.1 hu]; exact hl
    · rcases List.mem_append.1 hu with hu | hu
      · exact h u hu
      · rw [List.mem_singleton.1 hu]; exact ht
theorem merge_words {M : Nat} : ∀ (ts acc : List Tm), (∀ u ∈ acc, u.s.size ≤ M) → (∀ u ∈ ts, u.s.size ≤ M) → ∀ u ∈ ts.foldl pushT acc, u.s.size ≤ M
  | [], _, h, _ => h
  | t :: r, acc, h, ht => merge_words r (pushT acc t) (push_words h (ht t (by simp))) (fun u hu => ht u (by simp [hu]))
theorem merge_small {ts : List Tm} (hn : ts.length ≤ 100000) (hc : ∀ t ∈ ts, -1000000000000 ≤ t.c ∧ t.c ≤ 1000000000000) (hs : ∀ t ∈ ts, t.s.size ≤ maxLen) : SmallT (mergeT ts) := by
  have h1 := merge_len ts ts.length
  have h2 := merge_bnd (C := 1000000000000) (by omega) hc ts.length
  rw [merge_all] at h1 h2
  refine ⟨by unfold maxLen; omega, fun t ht => ⟨merge_words ts [] (fun u h => by cases h) hs t ht, ?_⟩⟩
  have := h2 t ht
  omega

end Go.Proofs.Ytmbffbjopehllaa

/- A map copied, cleared, made with one entry; the contracts of the program's 'oneSeries' and 'told' (of a series). -/

namespace Go.Proofs.Ytmbffbjopehllaa
open Go.RowKit Go.Shelf Go.Maps Go.MapKept

def cloneS_ren : Go.Shelf.Ren := ⟨fun | 5 => 79 | 7 => 98 | n => n, fun | 23 => 65 | 25 => 72 | 3 => 3 | 4 => 4 | 20 => 20 | n => n, fun n => n⟩
theorem cloneS : SlLaysW.n5 Try.prog cloneS_ren := {
  mixed := by kernel_rfl
  f5 := Exists.intro "maps.Clone[loop.example/foxcalculus/impl.series,loop.example/foxcalculus/impl.monomial,int]" ⟨of_decide_eq_true (by kernel_rfl), Try.func79.trans (congrArg some (by kernel_rfl))⟩
  f7 := Try.func98.trans (congrArg some (by kernel_rfl))
  t4 := Try.underlying4
  a4 := Try.isAgg4
  z4 := Try.sizeOf4
  v4 := Try.zeroValue4
  t20 := Try.underlying20
  a20 := Try.isAgg20
  z20 := Try.sizeOf20
  v20 := Try.zeroValue20
  t23 := Try.underlying65
  a23 := Try.isAgg65
  z23 := Try.sizeOf65
  v23 := Try.zeroValue65 }
theorem clone_any (b : Nat) (ts : List Tm) (w : World) (h : MapT w b ts) :
    Calls Try.prog 79 #[.map (some b)] w fun e w' => e = .returned (.map (some w.heap.size)) ∧ MapT w' w.heap.size ts ∧ Below w.heap.size w w' := by
  obtain ⟨es, h, hq⟩ := h
  refine (AnyW.maps_Clone_owns cloneS MonT _ b _ _ w h).mono ?_
  rintro e w' ⟨rfl, h1, _, h2⟩
  exact ⟨rfl, ⟨es, h1, hq⟩, h2⟩

section
variable {ops : Array Oper} {rest : List Oper} {o : Oper} {a : Act} {Q : Exit → Act → World → Prop}
theorem wpList_clear_map (w : World) (hg : o.guard = none) (m : Operand) (hop : o.op = Op.call { callee := Callee.builtin Builtin.clear, args := #[m], argTypes := #[SerT] }) (b : Nat) (ts : List Tm) (hm : a.eval m = .map (some b)) (h : MapT w b ts)
    (hK : ∀ w', MapT w' b [] → w.grownBy w' (some b) → wpList Try.prog ops Q rest (a.put o.dst (.tuple #[])) w') : wpList Try.prog ops Q (o :: rest) a w := by
  obtain ⟨es, ⟨es', clock, hb, F, _, _⟩, _⟩ := h
  have hrun : (Builtin.clear_ #[SerT] o.type #[.map (some b)]).run Try.prog w = .ok (.tuple #[]) { w with heap := w.heap.setIfInBounds b (.map #[] clock) } := by
    simp [Builtin.clear_, run_underlying undSer, Go.MapKept.run_getObj_map hb, Go.MapKept.run_setObj_map _ hb, Result.andThen]
  refine wpList_plain hg fun K' hK' => ?_
  unfold Oper.wp
  simp [execOp, hop, resolve, invoke, builtin, hm, hrun, Result.andThen]
  exact hK' _ _ (hK _ ⟨[], ⟨#[], clock, (heap_set hb).1, ⟨by simp, stamped_empty _, by simp⟩, Nat.le_refl _, rfl⟩, .refl _⟩ ⟨rfl, rfl, rfl, by simp, fun k _ hk => (heap_set hb).2 k fun e => hk (by rw [e])⟩)
theorem wpList_insert_map (w : World) (hg : o.guard = none) (m x v : Operand) (hop : o.op = Op.insert SerT m x v) (b : Nat) (ts : List Tm) (hm : a.eval m = .map (some b)) (h : MapT w b ts) (hn : ts.length < maxLen) (s : ByteArray) (c : Int)
    (hx : a.eval x = .string s) (hv : a.eval v = .int .i64 c) (hs : s.size ≤ maxLen) (hc : (Lit.int .i64 c).wf = true)
    (hK : ∀ w', MapT w' b (putT ts s c) → w.grownBy w' (some b) → wpList Try.prog ops Q rest (a.put o.dst undef) w') : wpList Try.prog ops Q (o :: rest) a w := by
  obtain ⟨D, hown, hput⟩ := h.store
  refine wpList_plain hg fun K' hK' => ?_
  obtain ⟨w', hrun, r1, r2⟩ := hown.update lawMon undSer hn (key_mk hs) (plainElem_int (H := Unit) Try.underlying3 hc)
  unfold Oper.wp
  simp [execOp, hop, hm, hx, hv, hrun, Result.andThen]
  exact hK' _ _ (hK w' (hput s c w' r1) r2)
end

theorem oneSeries_any (w : World) : Calls Try.prog 76 #[] w fun e w' => (∃ b, e = .returned (.map (some b)) ∧ w.heap.size ≤ b ∧ MapT w' b [⟨1, { data := #[] }⟩]) ∧ Below w.heap.size w w' := by
  have hmm := @run_makeMap Try.prog
  have h0 := mapT_made w
  go_enter Try.func76, Try.ntmps76
  go_wp2_with (first | (refine wpList_insert_map _ rfl _ _ _ rfl w.heap.size [] rfl h0 (by simp [maxLen]) _ _ rfl rfl (Nat.zero_le _) (by decide) ?_; intro w1 h1 hg1) | go_in)
  go_ret
  exact ⟨⟨_, rfl, Nat.le_refl _, h1⟩, ((Below.refl _ w).alloc (Nat.le_refl _) _).grown hg1 (by simp) (fun k e => by cases e; exact Nat.le_refl _)⟩

/-! ### told -/
def nzT2 (ts : List Tm) : List Tm := ts.filter fun t => !(t.c == 0)
theorem nzT2_snoc (ts : List Tm) (c : Int) (s : ByteArray) : nzT2 (ts ++ [⟨c, s⟩]) = if c = 0 then nzT2 ts else nzT2 ts ++ [⟨c, s⟩] := by
  unfold nzT2
  rw [List.filter_append, List.filter_cons, List.filter_nil]
  by_cases h : c = 0
  · simp [h]
  · simp [h]
theorem sorted_canon {ss ts : List Tm} (ha : Apart ts) (hp : ss.Perm (nzT2 ts)) (hs : ss.Pairwise (fun a b => lessW b.s a.s = false)) : ss = canonT ts := by
  have hsub : Apart (nzT2 ts) := List.Pairwise.filter _ ha
  have hss : Apart ss := hsub.perm hp.symm
  refine canonT_unique ⟨?_, fun t ht => ?_⟩ fun s => ?_
  · have h2 := List.pairwise_iff_getElem.1 hss
    have h1 := List.pairwise_iff_getElem.1 hs
    refine List.pairwise_iff_getElem.2 fun i j hi hj hij => ?_
    cases h : lessW ss[i].s ss[j].s
    · exact absurd (lessW_tri h (h1 i j hi hj hij)) (h2 i j hi hj hij)
    · rfl
  · have := (List.mem_filter.1 (hp.mem_iff.1 ht)).2
    simpa using this
  · rw [coefAt_perm s hp]; exact coefAt_filter s ts

end Go.Proofs.Ytmbffbjopehllaa

/- The contract of the program's 'times' (of series). -/

namespace Go.Proofs.Ytmbffbjopehllaa
open Go.RowKit Go.Shelf

theorem put_fresh {ts : List Tm} {s : ByteArray} {v : Int} (h : ∀ t ∈ ts, t.s ≠ s) : putT ts s v = ⟨v, s⟩ :: ts := by
  unfold putT
  rw [filter_every fun t ht => by simp [h t ht]]
theorem canon_apart {ts : List Tm} (h : Canon ts) : Apart ts := h.1.imp fun hl => lessW_ne hl
theorem apart_fresh {ts : List Tm} (h : Apart ts) {k : Nat} (hk : k < ts.length) : ∀ t ∈ ts.take k, t.s ≠ ts[k].s := fun t ht => by
  obtain ⟨i, hi, rfl⟩ := List.getElem_of_mem ht
  rw [List.length_take] at hi
  rw [List.getElem_take]
  exact List.pairwise_iff_getElem.1 h i k (by omega) hk (by omega)
theorem take_perm {ts : List Tm} {k : Nat} (hk : k < ts.length) : (ts[k] :: ts.take k).Perm (ts.take (k + 1)) := by
  rw [List.take_succ_eq_append_getElem hk]
  exact List.perm_append_comm (l₁ := [ts[k]])

/-! ### times -/
set_option maxRecDepth 100000 in
set_option maxHeartbeats 4000000 in
theorem times_any (b b2 : Nat) (X Y : List Tm) (w : World) (hne : b ≠ b2) (hX : MapT w b X) (hY : MapT w b2 Y) (mX : MonoT X) (mY : MonoT Y) (cX : BndT 1000000 X) (cY : BndT 1000000 Y) :
    Calls Try.prog 51 #[.map (some b), .map (some b2)] w fun e w' => e = .returned (.tuple #[]) ∧ (∃ ts, MapT w' b ts ∧ MonoT ts ∧ ∀ k, coefAt k ts = coefAt k (pairsS X Y)) ∧ w.grownBy w' (some b) := by
  have hb := hX.lt
  have hb2 := hY.lt
  have hlX := apart_len341 hX.apart mX
  have hlY := apart_len341 hY.apart mY
  have HX := Lib.hid hX
  have HY := Lib.hid hY
  have MX := Lib.hid mX
  have MY := Lib.hid mY
  have CX := Lib.hid cX
  have CY := Lib.hid cY
  clear hX hY mX mY cX cY
  go_enter Try.func51, Try.ntmps51
  go_wp2_with fail
  refine (clone_any b X w HX.out).mono ?_
  rintro e w1 ⟨rfl, hc, hb1⟩
  have hcl := hc.lt
  obtain ⟨cb, hcb⟩ : ∃ cb, w.heap.size = cb := ⟨_, rfl⟩
  rw [hcb] at hc hcl ⊢
  have HC1 := Lib.hid hc
  have HX1 := Lib.hid (HX.out.below hb1)
  have HY1 := Lib.hid (HY.out.below hb1)
  have G1 : w.grownBy w1 (some b) := (grown_of_below hb1).but _
  have HG1 := Lib.hid G1
  have HCB := Lib.hid hcb
  have hbc : b < cb := by omega
  have hb2c : b2 < cb := by omega
  clear hc hb1 G1 hcb hb hb2
  go_wp2_with (first | (refine wpList_clear_map _ rfl _ rfl b X rfl HX1.out ?_; intro w2 h2 hg2) | (at_range; refine wpList_range_map _ rfl _ rfl b2 Y rfl (HY1.out.kept hg2 (by simp; omega)) ?_; intro w3 hrg3 hg3 hs3) | go_in)
  go_frame
  have hs2 := hg2.size
  obtain ⟨r, hr⟩ : ∃ r, w2.heap.size = r := ⟨_, rfl⟩
  rw [hr] at hrg3 hs3 ⊢
  have HC3 : MapT w3 cb X := (HC1.out.kept hg2 (by simp; omega)).kept hg3 (by simp)
  have H3 : MapT w3 b [] := h2.kept hg3 (by simp)
  have G3 : w.grownBy w3 (some b) := (HG1.out.andThen hg2 (fun j hj => by cases hj; exact Or.inr rfl)).andThen hg3 (fun j hj => by cases hj)
  have hrc : cb < r := by omega
  go_loopw [5] (fun _ wr => ∃ (done : List Tm) (cnt : Nat) (ts : List Tm), RangeT wr b2 r Y done cnt ∧ MapT wr cb X ∧ MapT wr b ts ∧ Hid (MonoT ts ∧ ∀ k, coefAt k ts = coefAt k (pairsQ done X)) ∧ w.grownBy wr (some b))
    (fun _ wr => wr.rangeLeft b2 r)
  case atStart => exact ⟨[], _, [], hrg3, HC3, H3, Lib.hid ⟨fun t ht => by (cases ht), fun _ => rfl⟩, G3⟩
  case round =>
    obtain ⟨done, cnt, ts, hrg, hC, hT, HF, hG⟩ := hrel
    have hcl := hrg.cnt
    have hdl := hrg.donelen
    have hrl := hrg.lt
    have HRG := Lib.hid hrg
    have HCC := Lib.hid hC
    have HTT := Lib.hid hT
    have HGG := Lib.hid hG
    clear hrg hC hT hG H3 G3 HC3 hrg3 hg3 h2 hg2
    go_wp2_with (first | (at_next; refine wpList_next_map _ rfl _ rfl b2 r Y done cnt rfl HRG.out ?_ ?_) | go_in)
    · intro hperm
      go_wp2
      go_end0
      refine ⟨rfl, ⟨ts, HTT.out, HF.out.1, fun k => ?_⟩, HGG.out⟩
      rw [HF.out.2, coefAt_perm k (pairsQ_perm X hperm), pairsQ_swap]
    · intro m y v1 cnt1 hmem hrg1 hlt hg1 hs1 hen
      have HCv := Lib.hid (HCC.out.kept hg1 (by simp; omega))
      have HTv := Lib.hid (HTT.out.kept hg1 (by simp; omega))
      have HGv := Lib.hid (HGG.out.andThen hg1 (fun j hj => by cases hj; exact Or.inl (by have := HCB.out; omega)))
      have HRv := Lib.hid hrg1
      have hym := MY.out _ hmem
      have hys : y.size ≤ 4 := mono_size hym
      have hyc := CY.out _ hmem
      have HYM := Lib.hid hym
      have HYC := Lib.hid hyc
      clear hmem hym hyc hrg1 hg1 HRG HCC HTT HGG
      go_wp2_with (first | (at_range; refine wpList_range_map _ rfl _ rfl cb X rfl HCv.out ?_; intro v2 hrg2 hg2 hs2) | go_in)
      try go_frame
      rw [hs1] at hrg2 hs2
      obtain ⟨r2, hr2⟩ : ∃ r2, wr.heap.size = r2 := ⟨_, rfl⟩
      rw [hr2] at hrg2 hs2 ⊢
      have hrr : r < r2 := by omega
      have HR2 : RangeT v2 b2 r Y (done ++ [⟨m, y⟩]) cnt1 := HRv.out.kept hg2 (by simp) (by simp)
      have HT2 : MapT v2 b ts := HTv.out.kept hg2 (by simp)
      have HG2 : w.grownBy v2 (some b) := HGv.out.andThen hg2 (fun j hj => by cases hj)
      go_loopw [7] (fun _ wr => ∃ (dX : List Tm) (cnt2 : Nat) (us : List Tm), RangeT wr cb r2 X dX cnt2 ∧ RangeT wr b2 r Y (done ++ [⟨m, y⟩]) cnt1 ∧ MapT wr b us ∧ Hid (MonoT us ∧ ∀ k, coefAt k us = coefAt k (pairsQ done X ++ rowQ ⟨m, y⟩ dX)) ∧ w.grownBy wr (some b))
        (fun _ wr => wr.rangeLeft cb r2)
      case atStart => exact ⟨[], _, ts, hrg2, HR2, HT2, Lib.hid ⟨HF.out.1, fun k => by rw [HF.out.2, coefAt_append]; simp [rowQ, coefAt]⟩, HG2⟩
      case round =>
        obtain ⟨dX, cnt2, us, hrgX, hrgY, hU, HU, hGr⟩ := hrel
        have hcl2 := hrgX.cnt
        have hdl2 := hrgX.donelen
        have HRX := Lib.hid hrgX
        have HRY := Lib.hid hrgY
        have HUU := Lib.hid hU
        have HGr := Lib.hid hGr
        clear hrgX hrgY hU hGr HR2 HT2 HG2 hrg2 hg2
        go_wp2_with (first | (at_next; refine wpList_next_map _ rfl _ rfl cb r2 X dX cnt2 rfl HRX.out ?_ ?_) | go_in)
        · intro hperm
          have hl1 := HRY.out.cnt
          go_wp2
          go_roundw
          case rel => exact ⟨_, cnt1, us, HRY.out, HRX.out.map, HUU.out, Lib.hid ⟨HU.out.1, fun k => by rw [HU.out.2, pairsQ_snoc, coefAt_append, coefAt_append, coefAt_perm k (rowQ_perm _ hperm)]⟩, HGr.out⟩
          case measure => rw [hl1, hcl]; exact hlt
        · intro n x v3 cnt3 hmem hrgX hlt2 hg3 hs3 hen2
          have HRX3 := Lib.hid hrgX
          have HRY3 := Lib.hid (HRY.out.kept hg3 (by simp; omega) (by simp; omega))
          have HU3 := Lib.hid (HUU.out.kept hg3 (by simp; omega))
          have HG3 := Lib.hid (HGr.out.andThen hg3 (fun j hj => by cases hj; exact Or.inl (by have := HCB.out; omega)))
          have hxm := MX.out _ hmem
          have hxs : x.size ≤ 4 := mono_size hxm
          have hxc := CX.out _ hmem
          have hsn := rowQ_snoc ⟨m, y⟩ dX ⟨n, x⟩
          have hl3 := hrgX.cnt
          clear hmem hrgX hg3 HRX HRY HUU HGr
          by_cases h4 : x.size + y.size ≤ 4
          · have hd4 : decide ((x.size : Int) + (y.size : Int) ≤ 4) = true := decide_eq_true (by omega)
            obtain ⟨q, hq⟩ : ∃ q, x ++ y = q := ⟨_, rfl⟩
            have hqs : q.size = x.size + y.size := by rw [← hq]; exact ByteArray.size_append
            have hnot : ¬ 9223372036854775807 < x.size + y.size := by omega
            have hqm : q.size ≤ maxLen := by unfold maxLen; omega
            have hqmono : monoB q = true := by rw [← hq]; exact mono_append hxm HYM.out (by rw [hq]; omega)
            have hsn' : rowQ ⟨m, y⟩ (dX ++ [⟨n, x⟩]) = rowQ ⟨m, y⟩ dX ++ [⟨n * m, q⟩] := by rw [hsn, hq, if_pos (by omega)]
            have hmb := mul_bnd hxc HYC.out
            simp only at hmb
            obtain ⟨d, hd⟩ : ∃ d, n * m = d := ⟨_, rfl⟩
            rw [hd] at hmb hsn'
            have hmul : IntKind.i64.wrap (n * m) = d := by rw [hd]; exact IntWalk.i64_in _ (by omega)
            obtain ⟨z, hz⟩ : ∃ z, coefAt q us = z := ⟨_, rfl⟩
            have hzb : -120000000000000000 ≤ z ∧ z ≤ 120000000000000000 := by
              rw [← hz, HU.out.2]
              have hbq : BndT 1000000000000 (pairsQ done X ++ rowQ ⟨m, y⟩ dX) := fun t ht => by
                rcases List.mem_append.1 ht with ht | ht
                · exact bndQQ CX.out (fun u hu => CY.out u (HRY3.out.sub u (List.mem_append.2 (.inl hu)))) t ht
                · exact bndQ (fun u hu => CX.out u (HRX3.out.sub u (List.mem_append.2 (.inl hu)))) HYC.out t ht
              have h1 := coef_bnd (by omega) q hbq
              have h2 := pairsQ_len X done
              have h3 := rowQ_len ⟨m, y⟩ dX
              have h5 : done.length * X.length ≤ 341 * 341 := Nat.mul_le_mul (by omega) hlX
              have h6 : (pairsQ done X ++ rowQ ⟨m, y⟩ dX).length ≤ 341 * 341 + 341 := by rw [List.length_append]; omega
              omega
            have hadd : IntKind.i64.wrap (z + d) = z + d := IntWalk.i64_in _ (by omega)
            have hwf : (Lit.int .i64 (z + d)).wf = true := by
              simp only [Lit.wf, Bool.and_eq_true, decide_eq_true_eq]
              have e1 : IntKind.i64.min = -9223372036854775808 := by decide
              have e2 : IntKind.i64.max = 9223372036854775807 := by decide
              omega
            have hul : us.length < maxLen := by have := apart_len341 HU3.out.apart HU.out.1; unfold maxLen; omega
            have HSN := Lib.hid hsn'
            have HQM := Lib.hid hqmono
            have HZ := Lib.hid hz
            have HUL := Lib.hid hul
            have HWF := Lib.hid hwf
            have HQS := Lib.hid hqs
            clear hsn hsn' hqmono hmb hzb hxc hxm hul hwf hd hqs
            go_wp2_with (first | (refine wpList_lookup_map _ rfl _ _ rfl b us rfl HU3.out q rfl hqm ?_; rw [HZ.out]) | (refine wpList_update_map _ rfl _ _ _ rfl b us rfl HU3.out HUL.out q (z + d) rfl rfl hqm HWF.out ?_; intro v5 h5 hg5; simp only [Act.put]) | go_in)
            have hR5 := HRX3.out.kept hg5 (by simp; omega) (by simp; omega)
            have hl5 := hR5.cnt
            go_roundw
            case rel =>
              refine ⟨_, cnt3, _, hR5, HRY3.out.kept hg5 (by simp; omega) (by simp; omega), h5, Lib.hid ⟨mono_put HU.out.1 HQM.out, fun k => ?_⟩, HG3.out.andThen hg5 (fun j hj => by cases hj; exact Or.inr rfl)⟩
              rw [HSN.out, ← List.append_assoc, ← put_add q d HU.out.2 k, HZ.out]
            case measure => rw [hl5, hcl2]; exact hlt2
          · have hd4 : decide ((x.size : Int) + (y.size : Int) ≤ 4) = false := decide_eq_false (by omega)
            rw [if_neg (by simp only [ByteArray.size_append]; omega), List.append_nil] at hsn
            have HSN := Lib.hid hsn
            clear hsn hxc hxm
            go_wp2
            go_roundw
            case rel => exact ⟨_, cnt3, us, HRX3.out, HRY3.out, HU3.out, Lib.hid ⟨HU.out.1, fun k => by rw [HSN.out]; exact HU.out.2 k⟩, HG3.out⟩
            case measure => rw [hl3, hcl2]; exact hlt2

end Go.Proofs.Ytmbffbjopehllaa

/- The coefficient of 1 in products and in the series of a word; the depth out of the second term. -/

namespace Go.Proofs.Ytmbffbjopehllaa
open Go.RowKit

abbrev noS : ByteArray := { data := #[] }
theorem no_iff {s : ByteArray} : s = noS ↔ s.size = 0 := ⟨fun h => by rw [h]; rfl, fun h => bytes_ext (by rw [List.eq_nil_of_length_eq_zero (show s.data.toList.length = 0 by simpa using h)])⟩
theorem no_row (t : Tm) : ∀ y : List Tm, coefAt noS (rowS t y) = if t.s = noS then t.c * coefAt noS y else 0
  | [] => by simp [rowS, coefAt]
  | u :: r => by
    have e1 : coefAt noS ([pairS t u].filter short) = if t.s = noS ∧ u.s = noS then t.c * u.c else 0 := by
      have hz : (pairS t u).s = noS ↔ t.s = noS ∧ u.s = noS := by
        rw [no_iff, no_iff, no_iff]; unfold pairS; rw [append_size]; omega
      rw [List.filter_cons, List.filter_nil]
      by_cases hs : t.s = noS ∧ u.s = noS
      · rw [if_pos hs, if_pos (show short (pairS t u) = true from decide_eq_true (by rw [no_iff.1 (hz.2 hs)]; omega)), coefAt, if_pos (hz.2 hs)]; simp [coefAt, pairS]
      · rw [if_neg hs]
        split
        · rw [coefAt, if_neg (fun h => hs (hz.1 h))]; rfl
        · rfl
    rw [rowS_cons, coefAt_append, e1, no_row t r, coefAt]
    by_cases ht : t.s = noS <;> by_cases hu : u.s = noS <;> simp [ht, hu, Int.mul_add]
theorem no_pairs : ∀ x y : List Tm, coefAt noS (pairsS x y) = coefAt noS x * coefAt noS y
  | [], y => by simp [pairsS, coefAt]
  | t :: r, y => by
    have e : pairsS (t :: r) y = rowS t y ++ pairsS r y := by unfold pairsS rowS; rw [List.flatMap_cons]
    rw [e, coefAt_append, no_row, no_pairs r y, coefAt, Int.add_mul]
    by_cases ht : t.s = noS <;> simp [ht]
theorem letS_no_facts : ∀ n : Fin 8, coefAt noS (letS (UInt8.ofNat (if n.val < 4 then 97 + n.val else 61 + n.val))) = 1 := by decide +kernel
theorem letS_no {c : UInt8} (hc : letB c = true) : coefAt noS (letS c) = 1 := let_cases (P := fun c => coefAt noS (letS c) = 1) letS_no_facts hc
theorem serW_no (l : List UInt8) : letL l = true → coefAt noS (serW l) = 1 := by
  generalize hn : l.length = n
  induction n generalizing l with
  | zero => intro _; rw [List.length_eq_zero_iff.1 hn]; decide
  | succ n ih =>
    intro hl
    obtain ⟨p, c, rfl⟩ := last_split l (by omega)
    rw [letL_append, Bool.and_eq_true] at hl
    have hp : p.length = n := by rw [List.length_append] at hn; simp at hn; exact hn
    rw [serW_snoc, (canonT_spec _).2, no_pairs, ih p hp hl.1, letS_no (by have := hl.2; simp [letL] at this; exact this)]; rfl
theorem less_no {a : ByteArray} : lessW a noS = false := by
  by_cases h : a = noS
  · rw [h]; exact lessW_irrefl _
  · have h0 : ¬ a.size = 0 := fun e => h (no_iff.2 e)
    unfold lessW
    rw [if_neg (show ¬ a.size = noS.size from h0)]
    exact decide_eq_false (by show ¬ a.size < 0; omega)
theorem canon_first {ts : List Tm} (hc : Canon ts) (h1 : coefAt noS ts = 1) : ∃ u r, ts = u :: r ∧ u.s = noS ∧ u.c = 1 ∧ ∀ t ∈ r, t.s.size ≠ 0 := by
  cases ts with
  | nil => simp [coefAt] at h1
  | cons u r =>
    obtain ⟨h2, h3⟩ := List.pairwise_cons.1 hc.1
    have hr : ∀ t ∈ r, t.s.size ≠ 0 := fun t ht h0 => by
      have := h2 t ht
      rw [no_iff.2 h0, less_no] at this
      cases this
    have hu : u.s = noS := by
      by_cases h : u.s = noS
      · exact h
      · rw [coefAt_none (fun t ht e => by
          rcases List.mem_cons.1 ht with rfl | ht
          · exact h e
          · exact hr t ht (no_iff.1 e))] at h1
        cases h1
    refine ⟨u, r, rfl, hu, ?_, hr⟩
    rw [coefAt, if_pos hu, coefAt_none (fun t ht e => hr t ht (no_iff.1 e))] at h1
    omega
theorem depth_one {ts : List Tm} (hc : Canon ts) (h1 : coefAt noS ts = 1) (hl : ts.length = 1) : depthT ts = 0 := by
  obtain ⟨u, r, rfl, hu, _, _⟩ := canon_first hc h1
  have : r = [] := List.eq_nil_of_length_eq_zero (by simpa using hl)
  subst this
  rw [depthT, if_pos (no_iff.1 hu)]; rfl
theorem depth_two {ts : List Tm} (hc : Canon ts) (h1 : coefAt noS ts = 1) (hl : 1 < ts.length) : depthT ts = ts[1].s.size := by
  obtain ⟨u, r, rfl, hu, _, hr⟩ := canon_first hc h1
  cases r with
  | nil => simp at hl
  | cons t r =>
    rw [depthT, if_pos (no_iff.1 hu), depthT, if_neg (hr t (by simp))]
    rfl
theorem first_pos {ts : List Tm} (hc : Canon ts) (h1 : coefAt noS ts = 1) : 0 < ts.length := by
  obtain ⟨u, r, rfl, _⟩ := canon_first hc h1
  simp

end Go.Proofs.Ytmbffbjopehllaa

/- Products of series depend on the coefficients alone. -/

namespace Go.Proofs.Ytmbffbjopehllaa
open Go.RowKit

/-- The sum of coefficients times what a function says of their texts. -/
def linT (f : ByteArray → Int) : List Tm → Int
  | [] => 0
  | t :: r => t.c * f t.s + linT f r
theorem linT_append (f : ByteArray → Int) (a b : List Tm) : linT f (a ++ b) = linT f a + linT f b := by
  induction a with
  | nil => simp [linT]
  | cons t r ih => rw [List.cons_append, linT, linT, ih]; omega
theorem linT_nz (f : ByteArray → Int) (t : Tm) : linT f (nz t) = t.c * f t.s := by
  unfold nz
  by_cases h : t.c = 0
  · rw [if_pos h, h]; simp [linT]
  · rw [if_neg h]; simp [linT]
theorem linT_add (f : ByteArray → Int) (t : Tm) : ∀ ts, linT f (addT ts t) = linT f ts + t.c * f t.s
  | [] => by rw [addT, linT_nz, linT]; omega
  | x :: r => by
    rw [addT]
    by_cases h : lessW x.s t.s = true
    · rw [if_pos h, linT, linT, linT_add f t r]; omega
    · rw [if_neg h]
      by_cases h2 : x.s = t.s
      · rw [if_pos h2, linT_append, linT_nz, linT, h2]
        show (t.c + x.c) * f t.s + linT f r = x.c * f t.s + linT f r + t.c * f t.s
        rw [Int.add_mul]; omega
      · rw [if_neg h2, linT_append, linT_nz, linT]; omega
theorem linT_fold (f : ByteArray → Int) : ∀ ts acc, linT f (ts.foldl addT acc) = linT f acc + linT f ts
  | [], acc => by simp [linT]
  | t :: r, acc => by rw [List.foldl_cons, linT_fold f r, linT_add, linT]; omega
theorem linT_canon (f : ByteArray → Int) (ts : List Tm) : linT f (canonT ts) = linT f ts := by unfold canonT; rw [linT_fold]; simp [linT]
theorem linT_same {x y : List Tm} (h : ∀ q, coefAt q x = coefAt q y) (f : ByteArray → Int) : linT f x = linT f y := by rw [← linT_canon f x, ← linT_canon f y, canon_same h]
theorem row_one (q : ByteArray) (t : Tm) : ∀ y, coefAt q (rowS t y) = t.c * coefAt q (rowS ⟨1, t.s⟩ y)
  | [] => by simp [rowS, coefAt]
  | u :: r => by
    rw [rowS_cons, rowS_cons, coefAt_append, coefAt_append, row_one q t r, Int.mul_add]
    congr 1
    rw [List.filter_cons, List.filter_nil, List.filter_cons, List.filter_nil]
    by_cases hs : (t.s ++ u.s).size ≤ 4
    · rw [if_pos (show short (pairS t u) = true from decide_eq_true hs), if_pos (show short (pairS ⟨1, t.s⟩ u) = true from decide_eq_true hs), coefAt, coefAt, coefAt]
      show (if t.s ++ u.s = q then t.c * u.c else 0) + 0 = t.c * ((if t.s ++ u.s = q then 1 * u.c else 0) + 0)
      split <;> simp
    · rw [if_neg (show ¬ short (pairS t u) = true by unfold short pairS; simpa using hs), if_neg (show ¬ short (pairS ⟨1, t.s⟩ u) = true by unfold short pairS; simpa using hs)]
      simp [coefAt]
theorem row_lin (q : ByteArray) (t : Tm) : ∀ y, coefAt q (rowS t y) = linT (fun s => if (t.s ++ s).size ≤ 4 ∧ t.s ++ s = q then t.c else 0) y
  | [] => by simp [rowS, coefAt, linT]
  | u :: r => by
    rw [rowS_cons, coefAt_append, row_lin q t r, linT]
    congr 1
    rw [List.filter_cons, List.filter_nil]
    by_cases hs : (t.s ++ u.s).size ≤ 4
    · rw [if_pos (show short (pairS t u) = true from decide_eq_true hs), coefAt, coefAt]
      show (if t.s ++ u.s = q then t.c * u.c else 0) + 0 = u.c * (if (t.s ++ u.s).size ≤ 4 ∧ t.s ++ u.s = q then t.c else 0)
      by_cases hq : t.s ++ u.s = q
      · rw [if_pos hq, if_pos ⟨hs, hq⟩, Int.mul_comm]; omega
      · rw [if_neg hq, if_neg fun h => hq h.2]; simp
    · rw [if_neg (show ¬ short (pairS t u) = true by unfold short pairS; simpa using hs), if_neg fun h => hs h.1]
      simp [coefAt]
theorem pairs_lin (q : ByteArray) (y : List Tm) : ∀ x, coefAt q (pairsS x y) = linT (fun s => coefAt q (rowS ⟨1, s⟩ y)) x
  | [] => rfl
  | t :: r => by
    have e : pairsS (t :: r) y = rowS t y ++ pairsS r y := by unfold pairsS rowS; rw [List.flatMap_cons]
    rw [e, coefAt_append, row_one, pairs_lin q y r, linT]
theorem pairs_same1 {x x' : List Tm} (h : ∀ q, coefAt q x = coefAt q x') (y : List Tm) (q : ByteArray) : coefAt q (pairsS x y) = coefAt q (pairsS x' y) := by
  rw [pairs_lin, pairs_lin]; exact linT_same h _
theorem pairs_same2 {y y' : List Tm} (h : ∀ q, coefAt q y = coefAt q y') (q : ByteArray) : ∀ x, coefAt q (pairsS x y) = coefAt q (pairsS x y')
  | [] => rfl
  | t :: r => by
    have e : ∀ z, pairsS (t :: r) z = rowS t z ++ pairsS r z := fun z => by unfold pairsS rowS; rw [List.flatMap_cons]
    rw [e, e, coefAt_append, coefAt_append, pairs_same2 h q r, row_lin, row_lin, linT_same h]
theorem canon_id {ts : List Tm} (h : Canon ts) : canonT ts = ts := (canonT_unique h fun _ => rfl).symm

end Go.Proofs.Ytmbffbjopehllaa

/- The contracts of the program's 'series' of a letter and of a word, and of 'SeriesOf'. -/

namespace Go.Proofs.Ytmbffbjopehllaa
open Go.RowKit Go.Shelf

theorem altZ_succ (k : Nat) : altZ (k + 1) = -altZ k := by unfold altZ; split <;> split <;> omega
theorem altZ_one (k : Nat) : altZ k = 1 ∨ altZ k = -1 := by unfold altZ; split <;> simp
theorem bstr_app (a b : List UInt8) : bstr a ++ bstr b = bstr (a ++ b) := bytes_ext (by simp [bstr_toList])
theorem powS_next (c : UInt8) (k : Nat) : bstr (repL k (letX c)) ++ bstr (letX c) = bstr (repL (k + 1) (letX c)) := by rw [bstr_app, ← repL_add, repL_one]
theorem powS_size (c : UInt8) (k : Nat) : (bstr (repL k (letX c))).size = k := by
  have : (bstr (repL k (letX c))).data.toList.length = k := by rw [bstr_toList, repL_len]; simp [letX]
  simpa using this
theorem powT_fresh (c : UInt8) (k : Nat) : ∀ t ∈ (List.range (k + 1)).map (powT c), t.s ≠ bstr (repL (k + 1) (letX c)) := fun t ht => by
  obtain ⟨i, hi, rfl⟩ := List.mem_map.1 ht
  have := List.mem_range.1 hi
  intro e
  have e2 := congrArg ByteArray.size e
  unfold powT at e2
  rw [powS_size, powS_size] at e2
  omega
theorem powT_put (c : UInt8) (k : Nat) : (putT ((List.range (k + 1)).map (powT c)) (bstr (repL (k + 1) (letX c))) (altZ (k + 1))).Perm ((List.range (k + 2)).map (powT c)) := by
  rw [put_fresh (powT_fresh c k), List.range_succ (n := k + 1), List.map_append]
  exact List.perm_append_comm (l₁ := [powT c (k + 1)])

section
attribute [local go_sem] Oper.semAt_some
set_option maxRecDepth 100000 in
set_option maxHeartbeats 4000000 in
theorem letterSeries_any (c : UInt8) (w : World) (hc : letB c = true) :
    Calls Try.prog 77 #[.int .u8 (c.toNat : Int)] w fun e w' => ∃ b, e = .returned (.map (some b)) ∧ w.heap.size ≤ b ∧ MapT w' b (letS c) ∧ Below w.heap.size w w' := by
  have hor := (idx_let c hc).1
  have hj4 := idxB_lt c hc
  obtain ⟨u, hu⟩ : ∃ u, sgnB c = u := ⟨_, rfl⟩
  have HSX : Hid (∀ W, Calls Try.prog 82 #[.int .u8 (c.toNat : Int)] W fun e w' => e = .returned (.int .i64 u) ∧ w' = W) := Lib.hid fun W => by rw [← hu]; exact iSign_any c W hc
  obtain ⟨j, hj⟩ : ∃ j, idxB c = j := ⟨_, rfl⟩
  rw [hj] at hor hj4
  have HU : Hid (sgnB c = u) := Lib.hid hu
  have hlx : letX c = [UInt8.ofNat (97 + j)] := by unfold letX; rw [hj]
  have HLX := Lib.hid hlx
  clear hc hu hj hlx
  go_enter Try.func77, Try.ntmps77
  go_wp2_with fail
  refine (text_letters w.heap.size 0 1 1 (letX c) _ (by rw [HLX.out]; rfl) (by omega) ⟨by simp, fun i hi => ?_⟩).mono ?_
  · have h0 : i = 0 := by simp [letX] at hi; exact hi
    subst h0
    refine (World.cell?_alloc_at _ _ _ _ (by simp)).trans ?_
    have : ((letX c)[0]'hi) = UInt8.ofNat (97 + j) := by simp only [HLX.out, List.getElem_cons_zero]
    rw [this, UInt8.toNat_ofNat', Nat.mod_eq_of_lt (by omega)]
    show some (Value.int IntKind.u8 ((j : Int) + 97)) = some (Value.int IntKind.u8 ((97 + j : Nat) : Int))
    rw [show ((97 + j : Nat) : Int) = (j : Int) + 97 by omega]
  rintro e w1 ⟨rfl, hb1⟩
  obtain ⟨gx, hgx⟩ : ∃ gx, bstr (letX c) = gx := ⟨_, rfl⟩
  rw [hgx]
  have hB1 : Below w.heap.size w w1 := ((Below.refl _ w).alloc (Nat.le_refl _) _).trans (hb1.mono (by simp))
  have HB1 := Lib.hid hB1
  have HGX := Lib.hid hgx
  clear hb1 hB1 hgx
  go_wp2_with fail
  refine (oneSeries_any _).mono ?_
  rintro e w2 ⟨⟨mb, rfl, hlo, hM⟩, hb2⟩
  have hB2 : Below w.heap.size w w2 := HB1.out.trans (hb2.mono HB1.out.size)
  have hmb : w.heap.size ≤ mb := Nat.le_trans HB1.out.size hlo
  have HM := Lib.hid hM
  have HB2 := Lib.hid hB2
  clear hb2 hB2 hM hlo
  by_cases h97 : 97 ≤ c.toNat
  · obtain rfl : u = 1 := by rw [← HU.out]; unfold sgnB; rw [if_pos h97]
    have hls : letS c = [⟨1, { data := #[] }⟩, ⟨1, gx⟩] := by unfold letS; rw [if_pos h97, HGX.out]
    have hgs : gx.size ≤ maxLen := by rw [← HGX.out, ← repL_one (letX c), powS_size]; unfold maxLen; omega
    have hfr : putT [(⟨1, { data := #[] }⟩ : Tm)] gx 1 = [⟨1, gx⟩, ⟨1, { data := #[] }⟩] := put_fresh fun t ht => by
      rw [List.mem_singleton.1 ht]
      intro e
      have e2 := congrArg ByteArray.size e
      rw [← HGX.out, ← repL_one (letX c), powS_size] at e2
      cases e2
    have HGS := Lib.hid hgs
    have HFR := Lib.hid hfr
    have HLS := Lib.hid hls
    clear hgs hfr hls h97
    go_wp2_with fail
    refine (HSX.out _).mono ?_
    rintro e w3 ⟨rfl, rfl⟩
    go_wp2_with (first | (refine wpList_update_map _ rfl _ _ _ rfl mb [⟨1, { data := #[] }⟩] rfl HM.out (by simp [maxLen]) gx 1 rfl rfl HGS.out (by decide) ?_; intro v5 h5 hg5; simp only [Act.put]) | go_in)
    go_ret
    refine ⟨mb, rfl, hmb, ?_, HB2.out.grown hg5 HB2.out.size (fun i ei => by cases ei; exact hmb)⟩
    rw [HFR.out] at h5
    rw [HLS.out]
    exact h5.perm (List.Perm.swap _ _ _)
  · obtain rfl : u = -1 := by rw [← HU.out]; unfold sgnB; rw [if_neg h97]
    have HLS : Hid (letS c = (List.range 5).map (powT c)) := Lib.hid (by unfold letS; rw [if_neg h97])
    have HM0 : Hid (MapT w2 mb ((List.range (0 + 1)).map (powT c))) := HM
    clear h97
    go_wp2_with fail
    refine (HSX.out _).mono ?_
    rintro e w3 ⟨rfl, rfl⟩
    go_wp2_with fail
    go_loopw [5, 6, 18] (fun p z i wr => ∃ k : Nat, k ≤ 4 ∧ p = .string (bstr (repL k (letX c))) ∧ z = .int .i64 (altZ k) ∧ i = .int .i64 k ∧ MapT wr mb ((List.range (k + 1)).map (powT c)) ∧ Below w.heap.size w wr) (fun _ _ i _ => 4 - (intOf i).toNat)
    case atStart => exact ⟨0, by omega, rfl, rfl, rfl, HM0.out, HB2.out⟩
    case round =>
      obtain ⟨k, hk, rfl, rfl, rfl, hT, hB⟩ := hrel
      have HT := Lib.hid hT
      have HB := Lib.hid hB
      clear hT hB
      by_cases hlt : k < 4
      · have hpn := powS_next c k
        obtain ⟨p, hp⟩ : ∃ p, bstr (repL k (letX c)) = p := ⟨_, rfl⟩
        obtain ⟨q, hq⟩ : ∃ q, bstr (repL (k + 1) (letX c)) = q := ⟨_, rfl⟩
        have hps : p.size = k := by rw [← hp]; exact powS_size c k
        have hgs : gx.size = 1 := by rw [← HGX.out, ← repL_one (letX c)]; exact powS_size c 1
        have hqs : q.size ≤ maxLen := by rw [← hq, powS_size]; unfold maxLen; omega
        have hput := powT_put c k
        rw [hp, HGX.out, hq] at hpn
        rw [hq] at hput
        obtain ⟨z, hz⟩ : ∃ z, altZ k = z := ⟨_, rfl⟩
        have hz1 : altZ (k + 1) = -z := by rw [← hz]; exact altZ_succ k
        have hzz : z = 1 ∨ z = -1 := by rw [← hz]; exact altZ_one k
        have hneg : IntKind.i64.wrap (-z) = -z := IntWalk.i64_in _ (by omega)
        have hwf : (Lit.int .i64 (-z)).wf = true := by rcases hzz with rfl | rfl <;> decide
        have hnot : ¬ 9223372036854775807 < p.size + gx.size := by omega
        have hli : ((k : Int) < 4) := by omega
        rw [hz1] at hput
        rw [hp, hz]
        have HP := Lib.hid hput
        have HQ := Lib.hid hq
        have HQS := Lib.hid hqs
        have HWF := Lib.hid hwf
        have HZ1 := Lib.hid hz1
        have HUL := Lib.hid (show ((List.range (k + 1)).map (powT c)).length < maxLen by rw [List.length_map, List.length_range]; unfold maxLen; omega)
        clear hp hq hqs hput hz hz1 hzz hwf hps hgs
        go_wp2_with (first | (refine wpList_update_map _ rfl _ _ _ rfl mb ((List.range (k + 1)).map (powT c)) rfl HT.out HUL.out q (-z) rfl rfl HQS.out HWF.out ?_; intro v5 h5 hg5; simp only [Act.put]) | go_in)
        go_roundw
        case rel => exact ⟨k + 1, by omega, by rw [HQ.out], by rw [HZ1.out], by go_num, h5.perm HP.out, HB.out.grown hg5 HB.out.size (fun i ei => by cases ei; exact hmb)⟩
        case measure => simp [intOf]; omega
      · obtain rfl : k = 4 := by omega
        go_wp2
        go_ret
        refine ⟨mb, rfl, hmb, ?_, HB.out⟩
        rw [HLS.out]
        exact HT.out
end

end Go.Proofs.Ytmbffbjopehllaa

/- The contract of the program's 'told' (of a series). -/

namespace Go.Proofs.Ytmbffbjopehllaa
open Go.RowKit Go.Shelf Go.Maps Go.MapKept

set_option maxRecDepth 100000 in
set_option maxHeartbeats 2000000 in
theorem seriesTold_any (b : Nat) (ts : List Tm) (r : Bool) (w : World) (h : MapT w b ts) (hl : ts.length ≤ 1000) (hb : twS (canonT ts) = r) :
    Calls Try.prog 48 #[.map (some b)] w (ITold w r (canonT ts)) := by
  obtain ⟨i0, hi, hz0, hz1, hz2⟩ := info_parts infoTerm
  have hsm := h.small
  have hap := h.apart
  have hbl := h.lt
  have HSM := Lib.hid hsm
  have HAP := Lib.hid hap
  have HBB := Lib.hid hb
  have HL := Lib.hid hl
  clear hsm hap hb
  go_enter Try.func48, Try.ntmps48
  go_wp2_with (first | (at_range; refine wpList_range_map _ rfl _ rfl b ts rfl h ?_; intro w0 hrg0 hg0 hs0) | go_in)
  go_frame
  go_loopw [4] (fun v wr => ∃ (done : List Tm) (cnt : Nat), RangeT wr b w.heap.size ts done cnt ∧ Hid (OwnT w0.heap.size wr v (nzT2 done)) ∧ w0.heap.size ≤ wr.heap.size ∧ Below w.heap.size w wr)
    (fun _ wr => wr.rangeLeft b w.heap.size)
  case atStart => exact ⟨[], _, hrg0, Lib.hid ⟨rfl, .inl ⟨rfl, rfl⟩⟩, Nat.le_refl _, (Below.refl _ _).grown hg0 (Nat.le_refl _) (fun k e => by cases e)⟩
  case round =>
    obtain ⟨done, cnt, hrg, HO, hsz, hB⟩ := hrel
    have hlow0 := Lib.hid (ownsRow_low HO.out)
    have hcl := hrg.cnt
    have hdl := hrg.donelen
    have HRG := Lib.hid hrg
    go_wp2_with (first | (at_next; refine wpList_next_map _ rfl _ rfl b w.heap.size ts done cnt rfl HRG.out ?_ ?_) | go_in)
    · intro hperm
      have hsd : SmallT (nzT2 done) := ⟨by have := List.length_filter_le (fun t : Tm => !(t.c == 0)) done; unfold nzT2 maxLen; omega, fun t ht => HSM.out.2 t (hperm.mem_iff.1 (List.mem_filter.1 ht).1)⟩
      have hld : (nzT2 done).length ≤ 1000000 := by have := List.length_filter_le (fun t : Tm => !(t.c == 0)) done; unfold nzT2; omega
      obtain ⟨a1, c1, rfl, _⟩ := HO.out.isTerms hsd
      have HSO := Lib.hid (sortOwn_any w0.heap.size _ _ (nzT2 done) wr rfl hld hsz HO.out)
      have HPM := Lib.hid hperm
      have HSD := Lib.hid hsd
      clear hrg hperm hsd hld hlow0
      go_wp2_with fail
      refine HSO.out.mono ?_
      rintro e w2 ⟨rfl, ⟨ss, hp, hso, ho⟩, hb2⟩
      have hsc : ss = canonT ts := by
        rw [sorted_canon (HAP.out.perm HPM.out.symm) hp hso]
        exact canon_same fun k => coefAt_perm k HPM.out
      have hlen : ss.length = (nzT2 done).length := hp.length_eq
      have ho' : OwnT w0.heap.size w2 (.slice a1 (nzT2 done).length c1) ss := by unfold OwnT; rw [hlen]; exact ho
      have hss : SmallT ss := ⟨by rw [hlen]; exact HSD.out.1, fun t ht => HSD.out.2 t (hp.mem_iff.1 ht)⟩
      obtain ⟨a2, c2, e2, hI⟩ := ho'.isTerms hss
      injection e2 with ea en ec
      subst ea ec
      rw [en] at ho'
      have HI := Lib.hid hI
      have HO2 := Lib.hid ho'
      have hb2w : Below w.heap.size w w2 := hB.trans (hb2.mono (by have := hs0; omega))
      have HB2 := Lib.hid hb2w
      have hser : serB ss = r := by rw [hsc, serB_canon (canon_of ts)]; exact HBB.out
      have HSB := Lib.hid hser
      have HSC := Lib.hid hsc
      clear hp hso ho ho' hss hI hb2 hb2w hser hsc hlen
      go_wp2_with fail
      refine (iSeriesIn_is a1 c1 _ ss r w2 HI.out HSB.out).mono ?_
      rintro e w3 ⟨rfl, hb3⟩
      have HB3 := Lib.hid hb3
      clear hb3
      cases r
      · go_wp2
        go_ret2
        exact ⟨⟨_, rfl, ownNil _ _⟩, HB2.out.trans (HB3.out.mono HB2.out.size)⟩
      · go_wp2
        go_ret2
        refine ⟨⟨_, rfl, ?_⟩, HB2.out.trans (HB3.out.mono HB2.out.size)⟩
        rw [show cond true (canonT ts) [] = canonT ts from rfl, ← HSC.out]
        exact (HO2.out.below HB3.out).mono (by omega)
    · intro c s w1 cnt1 hmem hrg1 hlt hg1 hs1 hen
      have hB1 : Below w.heap.size w w1 := hB.grown hg1 hB.size (fun k e => by cases e; exact Nat.le_refl _)
      have ho1 : OwnT w0.heap.size w1 u4 (nzT2 done) := HO.out.kept hg1 (.inr fun e => by have := hlow0.out _ e; omega)
      have hsn := nzT2_snoc done c s
      have HO1 := Lib.hid ho1
      have HM := Lib.hid hmem
      have HR1 := Lib.hid hrg1
      have hl1 := hrg1.cnt
      clear hrg ho1 hmem hrg1 hg1
      by_cases hc0 : c = 0
      · rw [if_pos hc0] at hsn
        have hdc : (c == 0) = true := by simpa using hc0
        clear hc0
        have HSN := Lib.hid hsn
        clear hsn
        go_wp2
        go_roundw
        case rel => exact ⟨_, cnt1, HR1.out, Lib.hid (by rw [HSN.out]; exact HO1.out), by omega, hB1⟩
        case measure => rw [hl1, hcl]; exact hlt
      · rw [if_neg hc0] at hsn
        have hdc : (c == 0) = false := by simpa using hc0
        clear hc0
        have HSN := Lib.hid hsn
        clear hsn
        obtain ⟨N, hN⟩ : ∃ N, (nzT2 done).length = N := ⟨_, rfl⟩
        have hown : w1.ownsRow w0.heap.size TI 2 u4 N (termsV (nzT2 done)) := by rw [← hN]; exact HO1.out
        have HOW := Lib.hid hown
        have hNl : N ≤ 1000 := by have := List.length_filter_le (fun t : Tm => !(t.c == 0)) done; rw [← hN]; unfold nzT2; omega
        have HN := Lib.hid hN
        have hblt := hbl
        have hle01 : w0.heap.size ≤ w1.heap.size := by omega
        have HS1 := Lib.hid hs1
        clear hown hN HO1 hs1
        go_wp2_with (at_builtin; refine wpList_append_lies _ rfl _ _ _ rfl w0.heap.size TI i0 _ 2 24 Try.underlying25 hi hz0 hz1 hz2 rfl (by omega) u4 N (termsV (nzT2 done)) rfl (HOW.out.alloc _) ⟨w1.heap.size, 0, none⟩ 1 1 [.int .i64 c, .string s] rfl rfl (World.news_of_block (cs := #[.int .i64 c, .string s]) (t := TI) (fr := (0, 0)) (heap_alloc_new w1 _)) (by simp [Value.oneCell']) (by omega) (by unfold maxLen; omega) (by omega) (by simp; omega) (w1.heap.size + 1) (by simp) ?_; intro gg cap1 w7 hown7 hgrow7 hat hlt7)
        have hs1 := HS1.out
        have hlow := ownsRow_low HOW.out
        have hbA : Below w1.heap.size w1 (w1.alloc (.cells #[.int .i64 c, .string s] TI)) := (Below.refl _ w1).alloc (Nat.le_refl _) _
        have hR7 : RangeT w7 b w.heap.size ts (done ++ [⟨c, s⟩]) cnt1 := (HR1.out.kept (grown_of_below hbA) (by simp) (by simp)).kept hgrow7 (fun e => by have := hlow _ e.symm; omega) (fun e => by have := hlow _ e.symm; omega)
        have hB7 : Below w.heap.size w w7 := (hB1.trans (hbA.mono hB1.size)).grown hgrow7 (by simp; omega) (fun k e => by have := hlow _ e; omega)
        have hs7 : w0.heap.size ≤ w7.heap.size := by have := hgrow7.size; simp at this; omega
        have HO7 := Lib.hid hown7
        have HR7 := Lib.hid hR7
        have hl7 := hR7.cnt
        clear hown7 hgrow7 hat hlt7 hlow hbA hR7
        go_wp2
        go_roundw
        case rel =>
          refine ⟨_, cnt1, HR7.out, Lib.hid ?_, hs7, hB7⟩
          rw [HSN.out]
          unfold OwnT
          rw [List.length_append, HN.out, termsV_append]
          exact HO7.out
        case measure => rw [hl7, hcl]; exact hlt

end Go.Proofs.Ytmbffbjopehllaa

/- The contracts of the program's 'series' of a word and of 'SeriesOf'. -/

namespace Go.Proofs.Ytmbffbjopehllaa
open Go.RowKit Go.Shelf

attribute [local go_sem] Oper.semAt_some

theorem serW_bnd {us : List Tm} {l : List UInt8} (ha : Apart us) (hl : letL l = true) (h60 : l.length ≤ 60) (hq : ∀ q, coefAt q us = coefAt q (serW l)) : BndT 1000000 us := by
  have hok := serW_ok l hl
  refine apart_bnd ha (fun t ht => ?_) (by omega)
  rw [canon_same hq, canon_id hok.canon] at ht
  exact ((hok.ser h60).2 t ht).2
theorem letS_bnd {c : UInt8} (hc : letB c = true) : BndT 1000000 (letS c) := fun t ht => by have := (letS_ok hc).1 t ht; omega
theorem letS_mono {c : UInt8} (hc : letB c = true) : MonoT (letS c) := fun t ht => ((letS_ok hc).1 t ht).1

set_option maxRecDepth 100000 in
set_option maxHeartbeats 4000000 in
theorem wordSeries_in (n : Nat) (hn : 60 ≤ n) (g k cap : Nat) (L : List UInt8) (w : World) (hk : L.length = k) (hk60 : k ≤ 60) (hL : letL L = true) (hw : IsWord w.heap.size w (.slice (some ⟨g, 0, none⟩) k cap) L) :
    CallsIn Fence.wide n Try.prog 47 #[.slice (some ⟨g, 0, none⟩) k cap] w fun e w' =>
      ∃ b us, e = .returned (.map (some b)) ∧ w.heap.size ≤ b ∧ MapT w' b us ∧ MonoT us ∧ (∀ q, coefAt q us = coefAt q (serW L)) ∧ Below w.heap.size w w' := by
  have H2 := Lib.hid hL
  have HKL := Lib.hid hk
  have HW := Lib.hid hw
  clear hL hk hw
  refine callsIn_of_wp_marks Try.func47 rfl trivial ?_ rfl
  simp only [Try.ntmps47, List.size_toArray, List.length_cons, List.length_nil, Nat.reduceAdd, Nat.reduceSub, Array.replicate_succ, Array.replicate_zero, List.push_toArray, List.append_toArray, List.nil_append, List.cons_append]
  gi_wp2_with fail
  refine ⟨trivial, fun _ => by omega, ?_⟩
  refine (callsIn_wide.2 (oneSeries_any _)).mono ?_
  rintro e w1 ⟨⟨mb, rfl, hlo, hM⟩, hb1⟩
  have hmlt := hM.lt
  have HM := Lib.hid hM
  have HB1 := Lib.hid hb1
  have hs1 := hb1.size
  clear hM hb1
  gi_wp2_with fail
  refine ⟨trivial, fun _ => by omega, ?_⟩
  refine (callsIn_wide.2 (letters_fwd _ _ _ 1 _ (by decide))).mono ?_
  rintro e w3 ⟨rfl, rfl⟩
  have hbx := (Boxed.new w1 SerT (.map (some mb))).alloc (.cells #[.slice (some ⟨g, 0, none⟩) k cap] WT)
  have hbi := Boxed.new (w1.alloc (.cells #[.map (some mb)] SerT)) WT (.slice (some ⟨g, 0, none⟩) k cap)
  have hBv : Below w1.heap.size w1 ((w1.alloc (.cells #[.map (some mb)] SerT)).alloc (.cells #[.slice (some ⟨g, 0, none⟩) k cap] WT)) := ((Below.refl _ w1).alloc (Nat.le_refl _) _).alloc (by simp) _
  have hsz : ((w1.alloc (.cells #[.map (some mb)] SerT)).alloc (.cells #[.slice (some ⟨g, 0, none⟩) k cap] WT)).heap.size = w1.heap.size + 2 := by simp
  simp only [World.size_alloc] at hbx hbi ⊢
  generalize ((w1.alloc (.cells #[.map (some mb)] SerT)).alloc (.cells #[.slice (some ⟨g, 0, none⟩) k cap] WT)) = V at hbx hbi hBv hsz ⊢
  have hBV : Below w.heap.size w V := HB1.out.trans (hBv.mono hs1)
  have HWV := Lib.hid (HW.out.below hBV)
  have HMV := Lib.hid (HM.out.below hBv)
  have HBX := Lib.hid hbx
  have HBI := Lib.hid hbi
  have HBV := Lib.hid hBV
  clear hbx hbi hBV hBv
  gi_wp2_with fail
  refine range_values (by omega) (Bs := w1.heap.size + 1) rfl (n₀ := w.heap.size) (L := L) (by omega) HBI.out.cell HWV.out (by omega)
    (fun pre X => (Boxed X w1.heap.size SerT (.map (some mb)) ∧ ∃ us, MapT X mb us ∧ MonoT us ∧ ∀ q, coefAt q us = coefAt q (serW pre)) ∧ Below w.heap.size w X)
    (OwnFrom.and (OwnFrom.and (Own.from (fun s A B row hs hg hr => boxed_own w1.heap.size _ (fun _ : Unit => .map (some mb)) () A B row hs hg hr) _)
      (fun s A B row ⟨us, h1, h2⟩ hg hr => ⟨us, h1.kept hg (fun e => by have := (hr mb e.symm).1; omega), h2⟩)) (ownFrom_below (by omega) (by omega)))
    ⟨⟨HBX.out, _, HMV.out, fun t ht => by rw [List.mem_singleton.1 ht]; decide, fun _ => rfl⟩, HBV.out⟩
    (fun x => { tmps := #[.slice (some ⟨g, 0, none⟩) k cap, undef, .map none, .pointer (some ⟨w1.heap.size, 0, none⟩), .int .u8 (x.toNat : Int), .map (some mb), .slice (some ⟨g, 0, none⟩) k cap, .func (.func FV) #[] #[.pointer (some ⟨w1.heap.size + 1, 0, none⟩)], .int .u8 (x.toNat : Int), undef, undef, undef, undef, undef], defers := [] }) ?assign ?body ?done
  case assign =>
    intro l x W K hK
    gi_wp2
    exact hK
  case body =>
    rintro l pre x W ⟨⟨hbx, us, hT, mU, hq⟩, hB⟩ hpre
    have hlet : letB x = true := List.all_eq_true.1 H2.out x (prefix_mem hpre)
    have hlp : letL pre = true := letL_of_mem _ _ H2.out (fun c hc => hpre.subset (by simp [hc]))
    have hplen := prefix_len hpre
    rw [HKL.out] at hplen
    have hbd := serW_bnd hT.apart hlp (by omega) hq
    have hstep : ∀ q, coefAt q (pairsS us (letS x)) = coefAt q (serW (pre ++ [x])) := fun q => by rw [serW_snoc, (canonT_spec _).2, pairs_same1 hq]
    have HLS : Hid (∀ X, Calls Try.prog 77 #[.int .u8 (x.toNat : Int)] X fun e w' => ∃ b, e = .returned (.map (some b)) ∧ X.heap.size ≤ b ∧ MapT w' b (letS x) ∧ Below X.heap.size X w') := Lib.hid fun X => letterSeries_any x X hlet
    have HTM : Hid (∀ (b2 : Nat) (X : World), mb ≠ b2 → MapT X mb us → MapT X b2 (letS x) → Calls Try.prog 51 #[.map (some mb), .map (some b2)] X fun e w' => e = .returned (.tuple #[]) ∧ (∃ ts, MapT w' mb ts ∧ MonoT ts ∧ ∀ q, coefAt q ts = coefAt q (serW (pre ++ [x]))) ∧ X.grownBy w' (some mb)) :=
      Lib.hid fun b2 X hne h1 h2 => (times_any mb b2 us (letS x) X hne h1 h2 mU (letS_mono hlet) hbd (letS_bnd hlet)).mono fun e w' ⟨e1, ⟨ts, h1, h2, h3⟩, h4⟩ => ⟨e1, ⟨ts, h1, h2, fun q => by rw [h3, hstep]⟩, h4⟩
    have hmW := hT.lt
    have HT := Lib.hid hT
    have HBX2 := Lib.hid hbx
    have HB := Lib.hid hB
    have hws := hB.size
    have hc3 := hbx.cell
    have hbl := hbx.lt
    clear hT mU hq hbd hstep hlet hlp hbx hB hpre
    gi_wp2
    refine wpIn_region_any (by kernel_rfl) ?_
    change wpAnyIn _ _ _ _ _ _ _ _ _ (World.drew _)
    obtain ⟨S2, hS2⟩ : ∃ S2 : Value → World → Prop, S2 = fun v X => ∃ b2, v = .map (some b2) ∧ W.heap.size ≤ b2 ∧ MapT X b2 (letS x) ∧ Below W.heap.size W X := ⟨_, rfl⟩
    obtain ⟨S3, hS3⟩ : ∃ S3 : World → Prop, S3 = fun X => (∃ ts, MapT X mb ts ∧ MonoT ts ∧ ∀ q, coefAt q ts = coefAt q (serW (pre ++ [x]))) ∧ W.grownBy X (some mb) := ⟨_, rfl⟩
    refine wpAnyIn_inv (fun listed a X => ∃ (b0 b1 b2 b3 : Bool) (t9 t10 t11 t12 : Value), listed = #[b0, b1, b2, b3] ∧ a = { tmps := #[.slice (some ⟨g, 0, none⟩) k cap, undef, .map none, .pointer (some ⟨w1.heap.size, 0, none⟩), .int .u8 (x.toNat : Int), .map (some mb), .slice (some ⟨g, 0, none⟩) k cap, .func (.func FV) #[] #[.pointer (some ⟨w1.heap.size + 1, 0, none⟩)], .int .u8 (x.toNat : Int), t9, t10, t11, t12, undef], defers := [] } ∧
      ((b0 = true → t9 = .map (some mb)) ∧ (b1 = true → t10 = .int .u8 (x.toNat : Int))) ∧
      ((b2 = true → b1 = true) ∧ (b3 = true → b2 = true ∧ b0 = true)) ∧
      ((b2 = false → X = W.drew) ∧ (b2 = true → b3 = false → S2 t11 X) ∧ (b3 = true → S3 X))) ?step ?rdone _ _ _ _ (by decide) ?init
    case init =>
      exact ⟨false, false, false, false, undef, undef, undef, undef, rfl, rfl, by simp, by simp, by simp⟩
    case step =>
      rintro listed a X i ⟨b0, b1, b2, b3, t9, t10, t11, t12, rfl, rfl, ⟨v0, v1⟩, ⟨c2, c3⟩, ⟨x0, x1, x2⟩⟩ hun hdep hi
      have hi' : i = 0 ∨ i = 1 ∨ i = 2 ∨ i = 3 := by
        have : i < 4 := hi
        omega
      rcases hi' with rfl | rfl | rfl | rfl
      · -- the map is loaded
        obtain rfl : b0 = false := hun
        have hx : X.cell? ⟨w1.heap.size, 0, none⟩ = some (.map (some mb)) := by
          cases b2 with
          | false => rw [x0 rfl]; exact hc3
          | true =>
            cases b3 with
            | false =>
              have h := x1 rfl rfl
              rw [hS2] at h
              obtain ⟨_, _, _, _, hb⟩ := h
              exact (hb.cell (p := ⟨w1.heap.size, 0, none⟩) hbl).trans hc3
            | true => have := (c3 rfl).2; cases this
        refine wpOpIn_step rfl (fun K' hK => ?_)
        go_simp
        refine hK _ _ ⟨true, _, _, _, _, _, _, _, rfl, rfl, ⟨fun _ => rfl, v1⟩, ⟨c2, fun h => ⟨(c3 h).1, rfl⟩⟩, ⟨x0, x1, x2⟩⟩
      · -- the letter
        obtain rfl : b1 = false := hun
        refine wpOpIn_step rfl (fun K' hK => ?_)
        go_simp
        refine hK _ _ ⟨_, true, _, _, _, _, _, _, rfl, rfl, ⟨v0, fun _ => rfl⟩, ⟨fun _ => rfl, c3⟩, ⟨x0, x1, x2⟩⟩
      · -- its series
        obtain rfl : b2 = false := hun
        obtain rfl : b1 = true := hdep _ rfl ⟨1, .data⟩ (by simp) rfl
        obtain rfl := v1 rfl
        obtain rfl := x0 rfl
        have q3 : b3 = false := by
          cases b3 with
          | false => rfl
          | true => have := (c3 rfl).1; cases this
        subst q3
        refine wpOpIn_step rfl (fun K' hK => ?_)
        go_simp
        refine ⟨trivial, fun _ => by omega, ?_⟩
        refine (CallsIn.inRound l (callsIn_wide.2 (HLS.out _))).mono ?_
        rintro e X' ⟨b, rfl, hb, hm, hbe⟩
        refine hK _ _ ⟨_, _, true, _, _, _, _, _, rfl, rfl, ⟨v0, fun _ => rfl⟩, ⟨fun _ => rfl, (fun h => nomatch h)⟩, ⟨(fun h => nomatch h), fun _ _ => ?_, (fun h => nomatch h)⟩⟩
        rw [hS2]
        exact ⟨b, rfl, hb, hm, (Below.refl _ W).drew.trans hbe⟩
      · -- the product
        obtain rfl : b3 = false := hun
        obtain rfl : b0 = true := hdep _ rfl ⟨0, .data⟩ (by simp) rfl
        obtain rfl : b2 = true := hdep _ rfl ⟨2, .data⟩ (by simp) rfl
        obtain rfl := v0 rfl
        have h := x1 rfl rfl
        rw [hS2] at h
        obtain ⟨bb, rfl, hbb, hm, hbe⟩ := h
        refine wpOpIn_step rfl (fun K' hK => ?_)
        go_simp
        refine ⟨trivial, fun _ => by omega, ?_⟩
        refine (CallsIn.inRound l (callsIn_wide.2 (HTM.out bb X (by omega) (HT.out.below hbe) hm))).mono ?_
        rintro e X' ⟨rfl, hts, hgr⟩
        refine hK _ _ ⟨_, _, _, true, _, _, _, _, rfl, rfl, ⟨fun _ => rfl, (by first | exact v1 | exact fun _ => rfl)⟩, ⟨c2, fun _ => ⟨rfl, rfl⟩⟩, ⟨(fun h => nomatch h), (fun _ h => nomatch h), fun _ => ?_⟩⟩
        rw [hS3]
        exact ⟨hts, ((grown_of_below hbe).but (some mb)).andThen hgr (fun j ej => by cases ej; exact Or.inr rfl)⟩
    case rdone =>
      rintro listed a X ⟨b0, b1, b2, b3, t9, t10, t11, t12, rfl, rfl, -, -, ⟨-, -, x2⟩⟩ hall
      have q0 : b0 = true := hall 0 _ rfl (fun e he => by simp at he)
      have q1 : b1 = true := hall 1 _ rfl (fun e he => by simp at he)
      have q2 : b2 = true := hall 2 _ rfl (by
        intro e he _
        simp at he
        rcases he with rfl
        all_goals first | exact q0 | exact q1)
      have q3 : b3 = true := hall 3 _ rfl (by
        intro e he _
        simp at he
        rcases he with rfl | rfl | rfl
        all_goals first | exact q0 | exact q1 | exact q2)
      have h := x2 q3
      rw [hS3] at h
      obtain ⟨hts, hgr⟩ := h
      have hbel : Below w.heap.size W X := (Below.refl _ W).grown hgr hws (fun j ej => by cases ej; omega)
      have hkf : KeepsFrom V.heap.size W X := KeepsFrom.of_grownBy hgr (fun j ej => by cases ej; omega)
      gi_wp2
      exact ⟨hkf, ⟨hbel, hkf⟩, ⟨HBX2.out.kept hgr (fun e => by cases e; omega), hts⟩, HB.out.trans hbel⟩
  case done =>
    rintro D W hD ⟨⟨hbx, us, hT, mU, hq⟩, hB⟩ hK
    have hDlt : D < W.heap.size := (Array.getElem?_eq_some_iff.1 hK).1
    have hc3 := hbx.cell
    have hws := hB.size
    have HK := Lib.hid hK
    have HB := Lib.hid hB
    have HF : Hid (MapT (W.putObj D (.deferred none)) mb us ∧ MonoT us ∧ ∀ q, coefAt q us = coefAt q (serW L)) := Lib.hid ⟨hT.kept (grownBy_putObj' W D (.deferred none)) (fun e => by cases e; omega), mU, hq⟩
    clear hK hB hT mU hq
    gi_wp2
    refine ⟨by simp, .inl ⟨_, _, rfl, run_takeDeferred HK.out, ?_⟩⟩
    refine ⟨.map (some mb), by simp [results, Try.f47, go_sem], mb, us, rfl, hlo, HF.out.1, HF.out.2.1, HF.out.2.2, ?_⟩
    exact HB.out.trans (belowK_b (w := w) (Nat.le_refl _) W D _ _ (by omega) HK.out rfl rfl)

/-! ### SeriesOf -/
set_option maxHeartbeats 2000000 in
theorem iSeriesOf_any (s : ByteArray) (b : Bool) (w : World) (hs : s.size ≤ maxLen) (hb : wordB s.data.toList = b) :
    Calls Try.prog 17 #[.string s] w (ITold w b (serW s.data.toList)) := by
  cases b with
  | false =>
    have HB := Lib.hid hb
    clear hb
    go_enter Try.func17, Try.ntmps17
    go_wp2_with fail
    refine (wordOf_no s _ hs HB.out).mono ?_
    rintro e w1 ⟨rfl, hb1⟩
    go_wp2
    go_ret2
    exact ⟨⟨_, rfl, ownNil _ _⟩, hb1⟩
  | true =>
    have HB := Lib.hid hb
    obtain ⟨h1, h2, _⟩ := (wordB_iff _).1 hb
    have hs60 : s.size ≤ 60 := by simpa using h1
    have HL := Lib.hid h2
    have HTW := Lib.hid (serW_tw hb rfl)
    have HOK := Lib.hid (serW_ok _ h2)
    clear hb h1 h2
    go_enter Try.func17, Try.ntmps17
    go_wp2_with fail
    refine (wordOf_yes s _ HB.out).mono ?_
    rintro e w1 ⟨g, cap, rfl, hown, hb1⟩
    have HW := Lib.hid (isWord_of_owns (n₀ := w1.heap.size) (l := s.data.toList) (by simp) (by omega) hown (Nat.le_refl _))
    have HB1 := Lib.hid hb1
    have hs1 := hb1.size
    clear hown hb1
    go_wp2_with fail
    refine ((callsIn_wide (n := 60)).1 (wordSeries_in 60 (by omega) g s.size cap s.data.toList w1 (by simp) hs60 HL.out HW.out)).mono ?_
    rintro e w2 ⟨mb, us, rfl, hlo, hT, mU, hq, hb2⟩
    have hlu := apart_len341 hT.apart mU
    have HC := Lib.hid (show canonT us = serW s.data.toList by rw [canon_same hq, canon_id HOK.out.canon])
    have HB2 := Lib.hid (HB1.out.trans (hb2.mono hs1))
    have hs2 := HB2.out.size
    have HT := Lib.hid hT
    clear hT mU hq hb2
    go_wp2_with fail
    refine (seriesTold_any mb us true _ HT.out (by omega) (by rw [HC.out]; exact HTW.out)).mono ?_
    rintro e w3 ⟨⟨v, rfl, ho⟩, hb3⟩
    rw [HC.out] at ho
    have HO := Lib.hid ho
    have HB3 := Lib.hid (HB2.out.trans (hb3.mono hs2))
    clear ho hb3
    go_wp2
    go_ret2
    exact ⟨⟨_, rfl, HO.out.mono hs2⟩, HB3.out⟩

/-! ### As a law wants them -/
theorem sSeriesOf_law {s : ByteArray} {b : Bool} {w : World} (hs : s.size ≤ maxLen) (hb : wordB s.data.toList = b) :
    Calls Try.prog 16 #[.string s] w (STold w b (serW s.data.toList)) := sSeriesOf_any s b w hs hb
theorem iSeriesOf_law {s : ByteArray} {b : Bool} {w : World} (hs : s.size ≤ maxLen) (hb : wordB s.data.toList = b) :
    Calls Try.prog 17 #[.string s] w (ITold w b (serW s.data.toList)) := iSeriesOf_any s b w hs hb

end Go.Proofs.Ytmbffbjopehllaa

/- The contracts of the laws' 'markTermS' and 'heldTermS'. -/

namespace Go.Proofs.Ytmbffbjopehllaa
open Go.RowKit Go.Shelf

def markT (k i : Nat) : Tm := ⟨((k + 2 * i : Nat) : Int), mkS (k + 2 * i + 1)⟩
/-- The marks from k on. -/
def marksT (k n : Nat) : List Tm := (List.range n).map (markT k)
theorem marksT_len (k n : Nat) : (marksT k n).length = n := by simp [marksT]
theorem marksT_get (k n i : Nat) (h : i < (marksT k n).length) : (marksT k n)[i] = markT k i := by simp [marksT]
theorem marksT_set (k j n : Nat) (us : List Tm) (hl : us.length = n) (hj : j < n) : (marksT k j ++ us.drop j).set j (markT k j) = marksT k (j + 1) ++ us.drop (j + 1) := by
  rw [List.set_append_right _ _ (by rw [marksT_len]; exact Nat.le_refl _), marksT_len, Nat.sub_self, List.drop_eq_getElem_cons (by omega : j < us.length), List.set_cons_zero]
  unfold marksT
  rw [List.range_succ, List.map_append, List.append_assoc]
  rfl

theorem ownsRow_past {w w' : World} {base : Nat} {e : TypeId} {size : Nat} {v : Value} {n : Nat} {xs : List Value} (h : w.ownsRow base e size v n xs) (hb : Below w.heap.size w w') : w'.ownsRow base e size v n xs :=
  h.kept ⟨hb.os, hb.tape, hb.output, hb.size, fun j hj _ => hb.block j hj⟩ (row := none) (by
    rcases h.2 with ⟨rfl, _⟩ | ⟨g, cap, cur, rfl, _⟩
    · exact .inl rfl
    · exact .inr (by simp [Value.ownBlock]))
theorem marksT_row (k j n : Nat) (us : List Tm) (hl : us.length = n) (hj : j < n) :
    ((termsV (marksT k j ++ us.drop j)).set (j * 2) (.int .i64 ((k + 2 * j : Nat) : Int))).set (j * 2 + 1) (.string (mkS (k + 2 * j + 1))) = termsV (marksT k (j + 1) ++ us.drop (j + 1)) := by
  rw [← marksT_set k j n us hl hj]
  exact set_terms _ j (markT k j) (by rw [List.length_append, marksT_len, List.length_drop]; omega)

theorem grown_trans {a b c : World} {row : Option Nat} (h : a.grownBy b row) (k : b.grownBy c row) : a.grownBy c row :=
  ⟨k.os.trans h.os, k.tape.trans h.tape, k.output.trans h.output, Nat.le_trans h.size k.size, fun i hi hne => (k.block i (Nat.lt_of_lt_of_le hi h.size) hne).trans (h.block i hi hne)⟩
theorem grown_refl (a : World) (row : Option Nat) : a.grownBy a row := ⟨rfl, rfl, rfl, Nat.le_refl _, fun _ _ _ => rfl⟩
theorem grown_below {a b : World} (row : Option Nat) (h : Below a.heap.size a b) : a.grownBy b row := ⟨h.os, h.tape, h.output, h.size, fun i hi _ => h.block i hi⟩
theorem mkB_size : ∀ (m : Nat) (t : ByteArray), (mkB m t).size ≤ t.size + m := by
  intro m
  induction m using Nat.strongRecOn with
  | _ m ih =>
    intro t
    by_cases h : m = 0
    · subst h; rw [mkB_zero]; exact Nat.le_refl _
    · rw [← mkB_step h]
      have h1 := ih (m / 10) (by omega) (⟨#[UInt8.ofNat (48 + m % 10)]⟩ ++ t)
      have h2 : ((⟨#[UInt8.ofNat (48 + m % 10)]⟩ : ByteArray) ++ t).size = 1 + t.size := by simp [ByteArray.size_append]; rfl
      omega
theorem mkS_size (k : Nat) : (mkS k).size ≤ k + 1 := by
  have h := mkB_size k ⟨#[]⟩
  have h0 : (⟨#[]⟩ : ByteArray).size = 0 := rfl
  have h1 : (mkS k).size = 1 + (mkB k ⟨#[]⟩).size := by unfold mkS; simp [ByteArray.size_append]; rfl
  omega
theorem marksT_small (k n : Nat) (hk : k ≤ 1000000) (hn : n ≤ 1048576) : SmallT (marksT k n) :=
  ⟨by rw [marksT_len]; unfold maxLen; omega, fun t ht => by
    unfold marksT at ht
    obtain ⟨i, hi, rfl⟩ := List.mem_map.1 ht
    have hi := List.mem_range.1 hi
    have := mkS_size (k + 2 * i + 1)
    unfold markT maxLen
    dsimp only
    omega⟩

set_option maxRecDepth 100000 in
set_option maxHeartbeats 2000000 in
theorem markTermS_any (base k : Nat) (v : Value) (us : List Tm) (w : World) (h : OwnT base w v us) (hn : us.length ≤ 1048576) (hk0 : 0 < k) (hk : k ≤ 10000000) :
    Calls Try.prog 18 #[v, .int .i64 k] w fun e w' => e = .returned (.int .i64 ((k + 2 * us.length : Nat) : Int)) ∧ OwnT base w' v (marksT k us.length) ∧ w.grownBy w' v.ownBlock := by
  obtain ⟨a, cap, rfl⟩ : ∃ a cap, v = .slice a us.length cap := by
    rcases h.2 with ⟨rfl, h0⟩ | ⟨g, cap, cur, rfl, _⟩
    · exact ⟨none, 0, by rw [h0]⟩
    · exact ⟨_, _, rfl⟩
  obtain ⟨n, hl⟩ : ∃ n, us.length = n := ⟨_, rfl⟩
  unfold OwnT at h ⊢
  rw [hl] at h hn ⊢
  rw [marksT_len]
  have HH := Lib.hid h
  have HL := Lib.hid hl
  clear h hl
  go_enter Try.func18, Try.ntmps18
  go_wp2
  go_loopw [1, 5] (fun q i wr => ∃ j : Nat, j ≤ n ∧ q = .int .i64 ((k + 2 * j : Nat) : Int) ∧ i = .int .i64 j ∧ Hid (wr.ownsRow base TI 2 (.slice a n cap) n (termsV (marksT k j ++ us.drop j))) ∧ Hid (w.grownBy wr (Value.slice a n cap).ownBlock)) (fun _ i _ => n - (intOf i).toNat)
  case atStart => exact ⟨0, Nat.zero_le _, rfl, rfl, Lib.hid (by simpa [marksT] using HH.out), Lib.hid (grown_refl _ _)⟩
  case round =>
    obtain ⟨j, hj, rfl, rfl, HR, HB⟩ := hrel
    by_cases hlt : j < n
    · obtain ⟨g, rfl, hg⟩ : ∃ g, a = some ⟨g, 0, none⟩ ∧ base ≤ g := by
        rcases HR.out.2 with ⟨_, e1⟩ | ⟨g, cap1, cur, e0, hg, _⟩
        · omega
        · simp only [Value.slice.injEq] at e0; exact ⟨g, e0.1, hg⟩
      have hxl : (termsV (marksT k j ++ us.drop j)).length = n * 2 := by rw [termsV_len, List.length_append, marksT_len, List.length_drop, HL.out]; omega
      have hd0 : ∃ u, wr.cell? ⟨g, j * 2, none⟩ = some u := by rw [HR.out.cellAt _ (by omega)]; exact ⟨_, List.getElem?_eq_getElem (by omega)⟩
      obtain ⟨u0, hu0⟩ := hd0
      have hf0 := HR.out.frozenAt (j * 2)
      obtain ⟨m, hm⟩ : ∃ m, k + 2 * j = m := ⟨_, rfl⟩
      have hm1 : m ≤ 20000000 := by omega
      rw [hm]
      have hst := (HR.out.stored (j * 2) (.int .i64 (m : Int))).1
      have hbw := (HR.out.stored (j * 2) (.int .i64 (m : Int))).2
      have HM := Lib.hid hm
      have HST := Lib.hid hst
      have HBW := Lib.hid (grown_trans HB.out hbw)
      clear hm hst hbw hxl
      go_wp2_with fail
      refine (show Calls Try.prog 49 #[.int .i64 ((m : Int) + 1)] _ _ from markText_any (m + 1) _ (by omega) (by omega)).mono ?_
      rintro e w4 ⟨rfl, hb4⟩
      have hr4 := ownsRow_past HST.out hb4
      have hxl4 := hr4.1
      have hd1 : ∃ u, w4.cell? ⟨g, j * 2 + 1, none⟩ = some u := by rw [hr4.cellAt _ (by omega)]; exact ⟨_, List.getElem?_eq_getElem (by omega)⟩
      obtain ⟨u1, hu1⟩ := hd1
      have hf1 := hr4.frozenAt (j * 2 + 1)
      have HR4 := Lib.hid hr4
      have HB4 := Lib.hid (grown_trans HBW.out (grown_below _ hb4))
      clear hr4 hb4 hxl4
      go_wp2
      go_roundw
      case rel =>
        refine ⟨j + 1, by omega, by have := HM.out; go_num, by go_num, Lib.hid ?_, Lib.hid (grown_trans HB4.out (HR4.out.stored (j * 2 + 1) (.string (mkS (m + 1)))).2)⟩
        rw [← marksT_row k j n us HL.out hlt, HM.out]
        exact (HR4.out.stored (j * 2 + 1) (.string (mkS (m + 1)))).1
      case measure => simp [intOf]; omega
    · obtain rfl : j = n := by omega
      go_wp2
      go_ret
      refine ⟨rfl, ?_, HB.out⟩
      have := HR.out
      rw [List.drop_of_length_le (by rw [HL.out]; exact Nat.le_refl _), List.append_nil] at this
      exact this

/-! ### Texts -/
def marksS (k n : Nat) : List ByteArray := (List.range n).map fun i => mkS (k + i)
theorem marksS_len (k n : Nat) : (marksS k n).length = n := by simp [marksS]
theorem marksS_set (k j n : Nat) (us : List ByteArray) (hl : us.length = n) (hj : j < n) : (strsV (marksS k j ++ us.drop j)).set j (.string (mkS (k + j))) = strsV (marksS k (j + 1) ++ us.drop (j + 1)) := by
  have h1 : (marksS k j ++ us.drop j).set j (mkS (k + j)) = marksS k (j + 1) ++ us.drop (j + 1) := by
    rw [List.set_append_right _ _ (by rw [marksS_len]; exact Nat.le_refl _), marksS_len, Nat.sub_self, List.drop_eq_getElem_cons (by omega : j < us.length), List.set_cons_zero]
    unfold marksS
    rw [List.range_succ, List.map_append, List.append_assoc]
    rfl
  rw [← h1]
  unfold strsV
  rw [List.map_set]
def OwnS (base : Nat) (w : World) (v : Value) (zs : List ByteArray) : Prop := w.ownsRow base 9 1 v zs.length (strsV zs)
theorem OwnS.below {base : Nat} {w w' : World} {v : Value} {zs : List ByteArray} (h : OwnS base w v zs) (hb : Below w.heap.size w w') : OwnS base w' v zs := ownsRow_past h hb

set_option maxRecDepth 100000 in
set_option maxHeartbeats 2000000 in
theorem heldTermS_any (k : Nat) (a : Option Addr) (cap n : Nat) (w : World) (hs : IsTerms w a n (marksT k n)) (hn : n ≤ 1048576) (hk0 : 0 < k) (hk : k ≤ 1000000) :
    Calls Try.prog 19 #[.slice a n cap, .int .i64 k] w fun e w' => e = .returned (.int .i64 ((k + 2 * n : Nat) : Int)) ∧ Below w.heap.size w w' := by
  have HS := Lib.hid hs
  have hmx : Try.prog.follows .mixedOrders = true := by kernel_rfl
  clear hs
  go_enter Try.func19, Try.ntmps19
  go_wp2
  go_loopw [1, 5] (fun q i wr => ∃ j : Nat, j ≤ n ∧ q = .int .i64 ((k + 2 * j : Nat) : Int) ∧ i = .int .i64 j ∧ Below w.heap.size w wr) (fun _ i _ => n - (intOf i).toNat)
  case atStart => exact ⟨0, Nat.zero_le _, rfl, rfl, Below.refl _ _⟩
  case round =>
    obtain ⟨j, hj, rfl, rfl, hB⟩ := hrel
    by_cases hlt : j < n
    · obtain ⟨x, rfl, hx⟩ := HS.out.at_ (by omega)
      have hxw := hx.below hB
      have hc := hxw.2 j (by rw [marksT_len]; exact hlt)
      rw [marksT_get, addr_next] at hc
      obtain ⟨m, hm⟩ : ∃ m, k + 2 * j = m := ⟨_, rfl⟩
      have hm1 : m ≤ 4000000 := by omega
      unfold markT at hc
      rw [hm] at hc ⊢
      obtain ⟨c0, c1⟩ := hc
      dsimp only at c0 c1
      have hbx := hxw.1
      have v1 := BelowBy.cell (w := wr) (by show (x.add (j * 2)).block < _; rw [addr_add_block]; exact hbx) c1
      have HT : Hid (∀ W : World, Calls Try.prog 49 #[.int .i64 ((m : Int) + 1)] W fun e w' => e = .returned (.string (mkS (m + 1))) ∧ Below W.heap.size W w') :=
        Lib.hid fun W => markText_any (m + 1) W (by omega) (by omega)
      have HM := Lib.hid hm
      clear hm hx hxw c1
      go_wp2
      refine wp_region_below hmx (by kernel_rfl) ?_
      repeat (((with_reducible refine wpQuiet_step (fun K hK => ?_)); go_simp; first | ((with_reducible refine hK _ ?_); clear hK K) | (refine (if_neg (by decide)).mpr ?_; (with_reducible refine hK _ ?_); clear hK K) | (apply Exists.intro; (with_reducible refine ⟨fun _ => ?_, hK _ ?_⟩); (go_at_call 49; exact Calls.bel (HT.out _)); clear hK K)))
      with_reducible refine wpQuiet_nil ?_
      rintro W ⟨⟨W, hW⟩, rfl⟩
      clear v1
      have hBW : Below w.heap.size w W := hB.trans (hW.mono hB.size)
      change Exit.then _ _ _ _ W
      go_wp2
      go_roundw
      case rel => exact ⟨j + 1, by omega, by have := HM.out; go_num, by go_num, hBW⟩
      case measure => simp [intOf]; omega
    · obtain rfl : j = n := by omega
      go_wp2
      go_ret
      exact ⟨rfl, hB⟩

end Go.Proofs.Ytmbffbjopehllaa

/- The contracts of the program's 'SumAdd'; both SumAdds as a law wants them. -/

namespace Go.Proofs.Ytmbffbjopehllaa
open Go.RowKit Go.Shelf

theorem sumB_small {x : List Tm} (h : sumB x = true) : x.length ≤ 300 ∧ (∀ t ∈ x, t.s.size ≤ 60 ∧ -1000000 ≤ t.c ∧ t.c ≤ 1000000) ∧ SmallT x := by
  obtain ⟨h1, h2⟩ := canon_len_words (sumB_parts h).1
  have h3 : ∀ t ∈ x, t.s.size ≤ 60 ∧ -1000000 ≤ t.c ∧ t.c ≤ 1000000 := fun t ht => termB_iff (h2 t ht)
  exact ⟨h1, h3, by unfold maxLen; omega, fun t ht => by have := h3 t ht; unfold maxLen; omega⟩
theorem told_small {b : Bool} {L us : List Tm} (h : b = true → twB L = true) (hus : cond b L [] = us) : SmallT us ∧ us.length ≤ 300 := by
  cases b with
  | false => subst hus; exact ⟨⟨Nat.zero_le _, fun t h => by cases h⟩, Nat.zero_le _⟩
  | true =>
    have hus : L = us := hus
    subst hus
    obtain ⟨h1, h2⟩ := canon_len_words (h rfl)
    exact ⟨⟨by unfold maxLen; omega, fun t ht => by have := termB_iff (h2 t ht); unfold maxLen; omega⟩, h1⟩

theorem two_cells (w : World) (u v : Value) (x y : List Tm) (t : TypeId) : ∀ i (h : i < [(u, x), (v, y)].length), (w.alloc (.cells #[u, v] t)).cell? ⟨w.heap.size, i, none⟩ = some [(u, x), (v, y)][i].1 := fun i h => by
  rw [World.cell?_alloc_at _ _ _ _ rfl]
  match i, h with
  | 0, _ => rfl
  | 1, _ => rfl
theorem addB_tw {x y : List Tm} {b : Bool} (h : addB x y = b) : b = true → twB (canonT (x ++ y)) = true := by
  intro hb
  subst hb
  unfold addB at h
  simp only [Bool.and_eq_true] at h
  exact h.2.2

end Go.Proofs.Ytmbffbjopehllaa

/- What the laws on lists of terms need about rows of the call's own. -/

namespace Go.Proofs.Ytmbffbjopehllaa
open Go.RowKit Go.Shelf

theorem isTerms_owns {w : World} {base g cap n : Nat} {a : Option Addr} {w0 : World} {ts : List Tm} (h0 : IsTerms w0 a n ts) (h : w.ownsRow base TI 2 (.slice (some ⟨g, 0, none⟩) n cap) n (termsV ts)) : IsTerms w (some ⟨g, 0, none⟩) n ts :=
  ⟨h0.len, h0.max, fun _ => ⟨_, rfl, termsAt_of_owns h0.len h⟩, h0.small⟩
theorem ownIsTerms {base : Nat} {w : World} {a : Option Addr} {n c : Nat} {ts : List Tm} (h : OwnT base w (.slice a n c) ts) (hs : SmallT ts) : IsTerms w a n ts := by
  obtain ⟨a', c', e, hI⟩ := h.isTerms hs
  simp only [Value.slice.injEq] at e
  obtain ⟨rfl, rfl, rfl⟩ := e
  exact hI
theorem IsTerms.smallT {w : World} {a : Option Addr} {n : Nat} {ts : List Tm} (h : IsTerms w a n ts) : SmallT ts := ⟨by rw [h.len]; exact h.max, h.small⟩
theorem OwnT.keptBy {base : Nat} {w w' : World} {v : Value} {ts : List Tm} {row : Option Nat} (h : OwnT base w v ts) (hg : w.grownBy w' row) (hne : v.ownBlock = row → False) : OwnT base w' v ts := h.kept hg (.inr hne)
theorem OwnS.keptBy {base : Nat} {w w' : World} {v : Value} {ts : List ByteArray} {row : Option Nat} (h : OwnS base w v ts) (hg : w.grownBy w' row) (hne : v.ownBlock = row → False) : OwnS base w' v ts := h.kept hg (.inr hne)
theorem IsStrs.below {w w' : World} {a : Option Addr} {n : Nat} {zs : List ByteArray} (h : IsStrs w a n zs) (hb : Below w.heap.size w w') : IsStrs w' a n zs := ⟨h.len, h.max, h.at_.below hb⟩
theorem isStrs_owns {w : World} {base g n : Nat} {a : Option Addr} {w0 : World} {zs : List ByteArray} (h0 : IsStrs w0 a n zs) (h : w.ownsRow base 9 1 (.slice (some ⟨g, 0, none⟩) n n) n (strsV zs)) : IsStrs w (some ⟨g, 0, none⟩) n zs :=
  ⟨h0.len, h0.max, (strsAt_of_owns h0.len h h0.at_.small).1⟩
theorem ownIsStrs {base : Nat} {w w0 : World} {a : Option Addr} {g n : Nat} {zs : List ByteArray} (h0 : IsStrs w0 a n zs) (h : OwnS base w (.slice (some ⟨g, 0, none⟩) n n) zs) : StrsAt w (some ⟨g, 0, none⟩) zs := by
  unfold OwnS at h
  rw [h0.len] at h
  exact (strsAt_of_owns h0.len h h0.at_.small).1

end Go.Proofs.Ytmbffbjopehllaa

/- The contracts of the program's 'seriesOf' and 'SeriesTimes'. -/

namespace Go.Proofs.Ytmbffbjopehllaa
open Go.RowKit Go.Shelf

set_option maxRecDepth 100000 in
set_option maxHeartbeats 2000000 in
theorem seriesOf_no (a : Option Addr) (cap n : Nat) (ts : List Tm) (w : World) (hs : IsTerms w a n ts) (hb : serB ts = false) :
    Calls Try.prog 50 #[.slice a n cap] w fun e w' => e = .returned (.tuple #[.map none, .bool false]) ∧ Below w.heap.size w w' := by
  have HS := Lib.hid hs
  have HB := Lib.hid hb
  clear hs hb
  go_enter Try.func50, Try.ntmps50
  go_wp2_with fail
  refine (iSeriesIn_is a cap n ts false _ HS.out HB.out).mono ?_
  rintro e w1 ⟨rfl, hb1⟩
  go_wp2
  go_ret2
  exact ⟨rfl, hb1⟩

set_option maxRecDepth 100000 in
set_option maxHeartbeats 4000000 in
theorem seriesOf_yes (a : Option Addr) (cap n : Nat) (ts : List Tm) (w : World) (hs : IsTerms w a n ts) (hb : serB ts = true) :
    Calls Try.prog 50 #[.slice a n cap] w fun e w' => ∃ b, e = .returned (.tuple #[.map (some b), .bool true]) ∧ w.heap.size ≤ b ∧ MapT w' b ts ∧ Below w.heap.size w w' := by
  have hmm := @run_makeMap Try.prog
  obtain ⟨hlen, hpt, hcan⟩ := serB_parts hb
  have HAP := Lib.hid (canon_apart hcan)
  have HPT := Lib.hid hpt
  have HN := Lib.hid hs.len
  have HS := Lib.hid hs
  have HB := Lib.hid hb
  rw [hs.len] at hlen
  clear hs hb hpt hcan
  go_enter Try.func50, Try.ntmps50
  go_wp2_with fail
  refine (iSeriesIn_is a cap n ts true _ HS.out HB.out).mono ?_
  rintro e w1 ⟨rfl, hb1⟩
  have h0 := mapT_made w1
  have hB1 : Below w.heap.size w (w1.alloc (.map #[] 0)) := hb1.alloc hb1.size _
  have hs1 := hb1.size
  obtain ⟨mb, hmb⟩ : ∃ mb, w1.heap.size = mb := ⟨_, rfl⟩
  rw [hmb] at h0 hs1
  have HMB := Lib.hid hmb
  clear hb1
  go_wp2_with fail
  try simp only [HMB.out]
  clear hmb
  go_loopw [13] (fun i wr => ∃ k : Nat, k ≤ n ∧ i = .int .i64 k ∧ MapT wr mb (ts.take k) ∧ Below w.heap.size w wr) (fun i _ => n - (intOf i).toNat)
  case atStart => exact ⟨0, Nat.zero_le _, rfl, h0, hB1⟩
  case round =>
    obtain ⟨k, hk, rfl, hT, hB⟩ := hrel
    by_cases hlt : k < n
    · have hkz : k < ts.length := by rw [HN.out]; exact hlt
      obtain ⟨x, rfl, hx⟩ := HS.out.at_ (by omega)
      obtain ⟨t, ht⟩ : ∃ t, ts[k] = t := ⟨_, rfl⟩
      have hc := (hx.below hB).2 k hkz
      rw [ht, addr_next] at hc
      obtain ⟨hc0, hc1⟩ := hc
      have hsm := HS.out.small _ (List.getElem_mem hkz)
      have hfr := apart_fresh HAP.out hkz
      have htp := take_perm hkz
      rw [ht] at hsm hfr htp
      have hwf : (Lit.int .i64 t.c).wf = true := by
        simp only [Lit.wf, Bool.and_eq_true, decide_eq_true_eq]
        have e1 : IntKind.i64.min = -9223372036854775808 := by decide
        have e2 : IntKind.i64.max = 9223372036854775807 := by decide
        have h5 := (HPT.out _ (List.getElem_mem hkz)).2.1
        rw [ht] at h5
        omega
      have hul : (ts.take k).length < maxLen := by rw [List.length_take]; unfold maxLen; omega
      have HSM := Lib.hid hsm.1
      have HFR := Lib.hid (put_fresh (v := t.c) hfr)
      have HTP := Lib.hid htp
      have HWF := Lib.hid hwf
      have HUL := Lib.hid hul
      have HB := Lib.hid hB
      have hTa := hT.kept (grown_of_below ((Below.refl _ wr).alloc (Nat.le_refl _) (.cells #[.int .i64 t.c, .string t.s] TI))) (by simp)
      have HT := Lib.hid hT
      have HTA := Lib.hid hTa
      clear hx ht hsm hfr htp hwf hul hB hT hTa h0 hB1
      go_wp2_with (first | (refine wpList_update_map _ rfl _ _ _ rfl mb (ts.take k) rfl HTA.out HUL.out t.s t.c rfl rfl HSM.out HWF.out ?_; intro v5 h5 hg5; simp only [Act.put]) | (refine wpList_update_map _ rfl _ _ _ rfl mb (ts.take k) rfl HT.out HUL.out t.s t.c rfl rfl HSM.out HWF.out ?_; intro v5 h5 hg5; simp only [Act.put]) | go_in)
      go_roundw
      case rel =>
        refine ⟨k + 1, by omega, by go_num, ?_, ?_⟩
        · rw [HFR.out] at h5
          exact h5.perm HTP.out
        · first
          | exact (HB.out.alloc HB.out.size _).grown hg5 (by have := HB.out.size; simp; omega) (fun j ej => by cases ej; exact hs1)
          | exact HB.out.grown hg5 HB.out.size (fun j ej => by cases ej; exact hs1)
      case measure => simp [intOf]; omega
    · obtain rfl : k = n := by omega
      rw [List.take_of_length_le (by rw [HN.out]; exact Nat.le_refl _)] at hT
      go_wp2
      go_ret2
      exact ⟨_, rfl, hs1, hT, hB⟩

/-! ### SeriesTimes -/
set_option maxRecDepth 100000 in
set_option maxHeartbeats 4000000 in
theorem iSeriesTimes_no (a1 a2 : Option Addr) (c1 c2 n m : Nat) (x y : List Tm) (w : World) (hx : IsTerms w a1 n x) (hy : IsTerms w a2 m y) (hb : serB x = false ∨ serB y = false) :
    Calls Try.prog 21 #[.slice a1 n c1, .slice a2 m c2] w (ITold w false []) := by
  have HX := Lib.hid hx
  have HY := Lib.hid hy
  clear hx hy
  cases hbx : serB x with
  | false =>
    have HBX := Lib.hid hbx
    clear hbx hb
    go_enter Try.func21, Try.ntmps21
    go_wp2_with fail
    refine (seriesOf_no a1 c1 n x _ HX.out HBX.out).mono ?_
    rintro e w1 ⟨rfl, hb1⟩
    go_wp2
    go_ret2
    exact ⟨⟨_, rfl, ownNil _ _⟩, hb1⟩
  | true =>
    have hby : serB y = false := by rcases hb with h | h; · rw [h] at hbx; cases hbx
                                    · exact h
    have HBX := Lib.hid hbx
    have HBY := Lib.hid hby
    clear hbx hby hb
    go_enter Try.func21, Try.ntmps21
    go_wp2_with fail
    refine (seriesOf_yes a1 c1 n x _ HX.out HBX.out).mono ?_
    rintro e w1 ⟨b1, rfl, _, _, hb1⟩
    have HB1 := Lib.hid hb1
    clear hb1
    go_wp2_with fail
    refine (seriesOf_no a2 c2 m y _ (HY.out.below HB1.out) HBY.out).mono ?_
    rintro e w2 ⟨rfl, hb2⟩
    have HB2 := Lib.hid (HB1.out.trans (hb2.mono HB1.out.size))
    clear hb2
    go_wp2
    go_ret2
    exact ⟨⟨_, rfl, ownNil _ _⟩, HB2.out⟩

theorem ser_mono {ts : List Tm} (h : serB ts = true) : MonoT ts := fun t ht => ((serB_parts h).2.1 t ht).2.2
theorem ser_bnd {ts : List Tm} (h : serB ts = true) : BndT 1000000 ts := fun t ht => ((serB_parts h).2.1 t ht).2.1

set_option maxRecDepth 100000 in
set_option maxHeartbeats 4000000 in
theorem iSeriesTimes_yes (a1 a2 : Option Addr) (c1 c2 n m : Nat) (x y : List Tm) (b : Bool) (w : World) (hx : IsTerms w a1 n x) (hy : IsTerms w a2 m y) (hbx : serB x = true) (hby : serB y = true) (hb : twS (canonT (pairsS x y)) = b) :
    Calls Try.prog 21 #[.slice a1 n c1, .slice a2 m c2] w (ITold w b (canonT (pairsS x y))) := by
  have HX := Lib.hid hx
  have HY := Lib.hid hy
  have HBX := Lib.hid hbx
  have HBY := Lib.hid hby
  have HBB := Lib.hid hb
  clear hx hy hbx hby hb
  go_enter Try.func21, Try.ntmps21
  go_wp2_with fail
  refine (seriesOf_yes a1 c1 n x _ HX.out HBX.out).mono ?_
  rintro e w1 ⟨b1, rfl, hl1, hm1, hb1⟩
  have HM1 := Lib.hid hm1
  have HB1 := Lib.hid hb1
  clear hm1 hb1
  go_wp2_with fail
  refine (seriesOf_yes a2 c2 m y _ (HY.out.below HB1.out) HBY.out).mono ?_
  rintro e w2 ⟨b2, rfl, hl2, hm2, hb2⟩
  have HN12 := Lib.hid (show b1 ≠ b2 by have := HM1.out.lt; omega)
  have HM12 := Lib.hid (HM1.out.below hb2)
  have HM2 := Lib.hid hm2
  have HB2 := Lib.hid (HB1.out.trans (hb2.mono HB1.out.size))
  clear hm2 hb2
  go_wp2_with fail
  refine (times_any b1 b2 x y _ HN12.out HM12.out HM2.out (ser_mono HBX.out) (ser_mono HBY.out) (ser_bnd HBX.out) (ser_bnd HBY.out)).mono ?_
  rintro e w3 ⟨rfl, ⟨ts, hT, hmt, hco⟩, hg⟩
  have hlt := apart_len341 hT.apart hmt
  have HB3 := Lib.hid (HB2.out.grown hg HB2.out.size (fun j ej => by cases ej; exact hl1))
  have HC := Lib.hid (canon_same hco)
  have HT := Lib.hid hT
  have hs3 := HB3.out.size
  clear hT hmt hco hg
  go_wp2_with fail
  refine (seriesTold_any b1 ts b _ HT.out (by omega) (by rw [HC.out]; exact HBB.out)).mono ?_
  rintro e w4 ⟨⟨v, rfl, ho⟩, hb4⟩
  rw [HC.out] at ho
  have HO := Lib.hid ho
  have HB4 := Lib.hid (HB3.out.trans (hb4.mono hs3))
  clear ho hb4
  go_wp2
  go_ret2
  exact ⟨⟨_, rfl, HO.out.mono hs3⟩, HB4.out⟩

/-! ### As a law wants them -/
theorem sSeriesTimes_law {g1 g2 c1 c2 n m : Nat} {x y : List Tm} {b : Bool} {w : World} (hx : IsTerms w (some ⟨g1, 0, none⟩) n x) (hy : IsTerms w (some ⟨g2, 0, none⟩) m y) (hb : serProdB x y = b) :
    Calls Try.prog 20 #[.slice (some ⟨g1, 0, none⟩) n c1, .slice (some ⟨g2, 0, none⟩) m c2] w (STold w b (canonT (pairsS x y))) := sSeriesTimes_any _ _ _ _ _ _ x y b w hx hy hb
theorem iSeriesTimes_law {g1 g2 c1 c2 n m : Nat} {x y : List Tm} {b : Bool} {w : World} (hx : IsTerms w (some ⟨g1, 0, none⟩) n x) (hy : IsTerms w (some ⟨g2, 0, none⟩) m y) (hb : serProdB x y = b) :
    Calls Try.prog 21 #[.slice (some ⟨g1, 0, none⟩) n c1, .slice (some ⟨g2, 0, none⟩) m c2] w (ITold w b (canonT (pairsS x y))) := by
  unfold serProdB at hb
  cases hbx : serB x with
  | false => rw [hbx] at hb; subst hb; exact iSeriesTimes_no _ _ _ _ _ _ x y w hx hy (.inl hbx)
  | true =>
    cases hby : serB y with
    | false => rw [hbx, hby] at hb; subst hb; exact iSeriesTimes_no _ _ _ _ _ _ x y w hx hy (.inr hby)
    | true => rw [hbx, hby] at hb; exact iSeriesTimes_yes _ _ _ _ _ _ x y b w hx hy hbx hby hb

end Go.Proofs.Ytmbffbjopehllaa

/- A slice of terms that came in, opened. -/

namespace Go.Proofs.Ytmbffbjopehllaa
open Go.RowKit Go.ChangeShapes Go.WideShapes

theorem isTerms_of {H : Type} {enc : TypeId × Value → H} {W : World} {base : Nat} {spare : Nat → Bool} {held : Bool} {fuel : Nat} {a : Option Addr} {len cap : Nat} {x : DataW H × List MemPlace}
    (h : DataW.trod enc Try.prog W base spare held fuel 22 [.slice a len cap] = some x) : ∃ ts, IsTerms W a len ts := by
  rcases Go.Deep.open_slice_pairs Try.underlying22 Try.underlying49 (by kernel_rfl) rfl rfl (by kernel_rfl) (by kernel_rfl) h with ⟨hcs, _⟩ | ⟨y, l, c, m, n, V0, V1, D0, D1, P0, P1, hcs, hb, hl, hm, hmm, _, hx⟩
  · simp at hcs
    obtain ⟨rfl, rfl, rfl⟩ := hcs
    exact ⟨[], rfl, Nat.zero_le _, fun h => absurd h (Nat.lt_irrefl _), fun t h => by cases h⟩
  · simp at hcs
    obtain ⟨rfl, rfl, rfl⟩ := hcs
    have hlm : len ≤ m := by rw [hmm]; split <;> omega
    have each : ∀ i, i < len → ∃ t : Tm, W.cell? (y.add (i * 2)) = some (.int .i64 t.c) ∧ W.cell? (y.add (i * 2 + 1)) = some (.string t.s) ∧ (t.s.size ≤ maxLen ∧ -9223372036854775808 ≤ t.c ∧ t.c ≤ 9223372036854775807) := fun i hi => by
      obtain ⟨h0, h1, h2, h3⟩ := hx i (by omega)
      obtain ⟨k, hk, _, hwf⟩ := DataW.trod_int Try.underlying3 h2
      obtain ⟨s, hs, _, hsm⟩ := DataW.trod_string Try.underlying9 h3
      simp at hk hs
      refine ⟨⟨k, s⟩, by rw [h0, hk], by rw [h1, hs], hsm, ?_⟩
      simp only [Lit.wf, Bool.and_eq_true, decide_eq_true_eq] at hwf
      exact ⟨hwf.1, hwf.2⟩
    obtain ⟨q, hq⟩ := Go.Deep.choose_lt each
    refine ⟨(List.range len).map q, by simp, by omega, fun h0 => ⟨y, rfl, ?_, fun i hi => ?_⟩, fun t ht => ?_⟩
    · have := (hq 0 h0).1
      have h := World.block_lt_of_cell? _ _ this
      rw [addr_add_block] at h
      exact h
    · simp only [List.length_map, List.length_range] at hi
      simp only [List.getElem_map, List.getElem_range]
      exact ⟨(hq i hi).1, (hq i hi).2.1⟩
    · obtain ⟨i, hi, rfl⟩ := List.mem_map.1 ht
      exact (hq i (List.mem_range.1 hi)).2.2

end Go.Proofs.Ytmbffbjopehllaa

/- The contracts of the program's 'SeriesCoef' and 'SeriesDepth'. -/

namespace Go.Proofs.Ytmbffbjopehllaa
open Go.RowKit Go.Shelf

set_option maxRecDepth 100000 in
set_option maxHeartbeats 4000000 in
theorem iSeriesCoef_any (s m : ByteArray) (b1 b2 : Bool) (z : Int) (b : Bool) (w : World) (hs : s.size ≤ maxLen) (hms : m.size ≤ maxLen) (h1 : wordB s.data.toList = b1) (h2 : monoB m = b2) (hz : cond (b1 && b2) (coefAt m (serW s.data.toList)) 0 = z) (hb : (b1 && b2) = b) :
    Calls Try.prog 23 #[.string s, .string m] w fun e w' => e = .returned (.tuple #[.int .i64 z, .bool b]) ∧ Below w.heap.size w w' := by
  have H2 := Lib.hid h2
  have HZ := Lib.hid hz
  have HB := Lib.hid hb
  have HS := Lib.hid (iSeriesOf_any s b1 w hs h1)
  have H1 := Lib.hid h1
  obtain ⟨ts, hts⟩ : ∃ ts, cond b1 (serW s.data.toList) [] = ts := ⟨_, rfl⟩
  obtain ⟨hsm, hlen⟩ := told_smallS (serW_tw h1) hts
  obtain ⟨n, hn⟩ : ∃ n, ts.length = n := ⟨_, rfl⟩
  have HTS := Lib.hid hts
  have HN := Lib.hid hn
  have HSM := Lib.hid hsm
  rw [hn] at hlen
  clear h1 h2 hz hb hts hsm hn
  go_enter Try.func23, Try.ntmps23
  go_wp2_with fail
  refine HS.out.mono ?_
  rintro e w1 ⟨⟨v1, rfl, ho1⟩, hb1⟩
  cases b1 with
  | false =>
    obtain rfl : b = false := HB.out.symm
    obtain rfl : z = 0 := HZ.out.symm
    clear ho1
    go_wp2
    go_ret2
    exact ⟨rfl, hb1⟩
  | true =>
    have ho1 : OwnT w.heap.size w1 v1 (serW s.data.toList) := ho1
    have hts : serW s.data.toList = ts := HTS.out
    rw [hts] at ho1
    obtain ⟨a1, c1, rfl, hI1⟩ := ho1.isTerms HSM.out
    rw [HN.out] at hI1 ⊢
    have HI := Lib.hid hI1
    have HCa : Hid (Canon ts) := Lib.hid (by
      obtain ⟨p1, p2, _⟩ := (wordB_iff _).1 H1.out
      rw [← hts]; exact (serW_ok _ p2).canon)
    have HT := Lib.hid hts
    have HB1 := Lib.hid hb1
    clear ho1 hI1 hts hb1
    go_wp2_with fail
    refine (known4_is m b2 _ hms H2.out).mono ?_
    rintro e w2 ⟨rfl, hb2⟩
    have HB2 := Lib.hid (HB1.out.trans (hb2.mono HB1.out.size))
    have HI2 := Lib.hid (HI.out.below hb2)
    clear hb2
    cases b2 with
    | false =>
      obtain rfl : b = false := HB.out.symm
      obtain rfl : z = 0 := HZ.out.symm
      go_wp2
      go_ret2
      exact ⟨rfl, HB2.out⟩
    | true =>
      obtain rfl : b = true := HB.out.symm
      have HZ2 : Hid (coefAt m ts = z) := Lib.hid (by rw [← HT.out]; exact HZ.out)
      go_wp2
      go_loopw [24] (fun i wr => ∃ k : Nat, k ≤ n ∧ i = .int .i64 k ∧ Hid (∀ j (h : j < ts.length), j < k → ts[j].s ≠ m) ∧ Below w2.heap.size w2 wr) (fun i _ => n - (intOf i).toNat)
      case atStart => exact ⟨0, Nat.zero_le _, rfl, Lib.hid (fun j _ h => absurd h (Nat.not_lt_zero _)), Below.refl _ _⟩
      case round =>
        obtain ⟨k, hk, rfl, HJ, hBr⟩ := hrel
        have hB2r := HB2.out.trans (hBr.mono HB2.out.size)
        by_cases hlt : k < n
        · have hkx : k < ts.length := by rw [HN.out]; exact hlt
          obtain ⟨x, rfl, hx⟩ := HI2.out.at_ (by omega)
          obtain ⟨t, ht⟩ : ∃ t, ts[k] = t := ⟨_, rfl⟩
          have hc := (hx.below hBr).2 k hkx
          rw [ht, addr_next] at hc
          obtain ⟨c0, d1⟩ := hc
          have HBR := Lib.hid (hBr.alloc hBr.size (.cells #[.int .i64 t.c, .string t.s] TI))
          have HBW := Lib.hid (hB2r.alloc hB2r.size (.cells #[.int .i64 t.c, .string t.s] TI))
          by_cases hm : t.s = m
          · have hq : (t.s.toList == m.toList) = true := by rw [bytes_beq, hm]; simp
            have hret : t.c = z := by rw [← HZ2.out, ← hm]; exact (coefAt_get HCa.out (by rw [← ht]; exact List.getElem_mem hkx)).symm
            subst hret
            clear hm ht hx hBr hB2r
            go_wp2
            go_ret2
            exact ⟨rfl, HBW.out⟩
          · have hq : (t.s.toList == m.toList) = false := by rw [bytes_beq]; exact decide_eq_false fun e => hm (bytes_ext e)
            have HNe := Lib.hid hm
            have HT2 := Lib.hid ht
            clear hm ht hx hBr hB2r
            go_wp2
            go_roundw
            case rel =>
              refine ⟨k + 1, by omega, by go_num, Lib.hid fun j hj hjk => ?_, HBR.out⟩
              by_cases e : j = k
              · subst e; rw [HT2.out]; exact HNe.out
              · exact HJ.out j hj (by omega)
            case measure => simp [intOf]; omega
        · obtain rfl : k = n := by omega
          have hz0 : z = 0 := by
            rw [← HZ2.out]
            refine coefAt_none fun t ht => ?_
            obtain ⟨j, hj, rfl⟩ := List.getElem_of_mem ht
            exact HJ.out j hj (by rw [← HN.out]; exact hj)
          subst hz0
          go_wp2
          go_ret2
          exact ⟨rfl, hB2r⟩

set_option maxRecDepth 100000 in
set_option maxHeartbeats 4000000 in
theorem iSeriesDepth_any (s : ByteArray) (b : Bool) (z : Nat) (w : World) (hs : s.size ≤ maxLen) (h1 : wordB s.data.toList = b) (hz : cond b (depthT (serW s.data.toList)) 0 = z) :
    Calls Try.prog 25 #[.string s] w fun e w' => e = .returned (.tuple #[.int .i64 z, .bool b]) ∧ Below w.heap.size w w' := by
  have HZ := Lib.hid hz
  have H1 := Lib.hid h1
  have HS := Lib.hid (iSeriesOf_any s b w hs h1)
  obtain ⟨ts, hts⟩ : ∃ ts, cond b (serW s.data.toList) [] = ts := ⟨_, rfl⟩
  obtain ⟨hsm, hlen⟩ := told_smallS (serW_tw h1) hts
  obtain ⟨n, hn⟩ : ∃ n, ts.length = n := ⟨_, rfl⟩
  have HTS := Lib.hid hts
  have HN := Lib.hid hn
  have HSM := Lib.hid hsm
  rw [hn] at hlen
  clear h1 hz hts hsm hn
  go_enter Try.func25, Try.ntmps25
  go_wp2_with fail
  refine HS.out.mono ?_
  rintro e w1 ⟨⟨v1, rfl, ho1⟩, hb1⟩
  cases b with
  | false =>
    obtain rfl : z = 0 := HZ.out.symm
    clear ho1
    go_wp2
    go_ret2
    exact ⟨rfl, hb1⟩
  | true =>
    have ho1 : OwnT w.heap.size w1 v1 (serW s.data.toList) := ho1
    have hts : serW s.data.toList = ts := HTS.out
    rw [hts] at ho1
    obtain ⟨a1, c1, rfl, hI1⟩ := ho1.isTerms HSM.out
    rw [HN.out] at hI1 ⊢
    have HI := Lib.hid hI1
    have HZ2 : Hid (depthT ts = z) := Lib.hid (by rw [← hts]; exact HZ.out)
    have hl := (wordB_iff _).1 H1.out
    have hcan : Canon ts := by rw [← hts]; exact (serW_ok _ hl.2.1).canon
    have hno : coefAt noS ts = 1 := by rw [← hts]; exact serW_no _ hl.2.1
    have hpos := first_pos hcan hno
    rw [HN.out] at hpos
    have HB1 := Lib.hid hb1
    by_cases h1n : n = 1
    · obtain rfl : z = 0 := by rw [← HZ2.out]; exact depth_one hcan hno (by rw [HN.out]; exact h1n)
      have hd : decide ((n : Int) = 1) = true := decide_eq_true (by omega)
      clear ho1 hI1 hts hb1 hcan hno hl
      subst h1n
      go_wp2
      go_ret2
      exact ⟨rfl, HB1.out⟩
    · have h2n : 1 < ts.length := by rw [HN.out]; omega
      have hzz : ts[1].s.size = z := by rw [← HZ2.out, depth_two hcan hno h2n]
      obtain ⟨x, rfl, hx⟩ := HI.out.at_ (by omega)
      obtain ⟨t, ht⟩ : ∃ t, ts[1] = t := ⟨_, rfl⟩
      have hc := hx.2 1 h2n
      rw [ht, addr_next] at hc
      rw [ht] at hzz
      have d1 : w1.cell? ⟨x.block, x.off + 2 + 1, none⟩ = some (.string t.s) := hc.2
      clear hc
      have hd : decide ((n : Int) = 1) = false := decide_eq_false (by omega)
      have hn1 : ¬ (n : Int) = 1 := by omega
      have hln : 1 < n := by omega
      have hlni : (1 : Int) < (n : Int) := by omega
      subst hzz
      clear ho1 hI1 hts hb1 hcan hno hl ht hx
      go_wp2
      go_ret2
      exact ⟨rfl, HB1.out⟩

end Go.Proofs.Ytmbffbjopehllaa

/- The contracts of the model's 'l4Shuffle' and 'SeriesShuffle'. -/

namespace Go.Proofs.Ytmbffbjopehllaa
open Go.RowKit Go.Shelf

/-- All ways to put two texts together behind a third one, at most k letters being left. -/
def shufT : Nat → ByteArray → ByteArray → ByteArray → List Tm
  | 0, p, a, b => [⟨1, p ++ a ++ b⟩]
  | k + 1, p, a, b => if a.size = 0 ∨ b.size = 0 then [⟨1, p ++ a ++ b⟩] else shufT k (p ++ a.extract 0 1) (a.extract 1 a.size) b ++ shufT k (p ++ b.extract 0 1) a (b.extract 1 b.size)
theorem shufT_end {k : Nat} {p a b : ByteArray} (h : a.size = 0 ∨ b.size = 0) : shufT k p a b = [⟨1, p ++ a ++ b⟩] := by
  cases k with
  | zero => rfl
  | succ k => rw [shufT, if_pos h]
theorem shufT_go {k : Nat} {p a b : ByteArray} (ha : ¬ a.size = 0) (hb : ¬ b.size = 0) : shufT (k + 1) p a b = shufT k (p ++ a.extract 0 1) (a.extract 1 a.size) b ++ shufT k (p ++ b.extract 0 1) a (b.extract 1 b.size) := by
  rw [shufT, if_neg (by omega)]
theorem shufT_len : ∀ (k : Nat) (p a b : ByteArray), (shufT k p a b).length ≤ 2 ^ k
  | 0, _, _, _ => by simp [shufT]
  | k + 1, p, a, b => by
    rw [shufT]
    split
    · have : 0 < 2 ^ (k + 1) := Nat.pow_pos (by omega)
      simp; omega
    · have h1 := shufT_len k (p ++ a.extract 0 1) (a.extract 1 a.size) b
      have h2 := shufT_len k (p ++ b.extract 0 1) a (b.extract 1 b.size)
      rw [List.length_append, Nat.pow_succ]; omega
theorem empty_true {s : ByteArray} (h : s.size = 0) : s.toList.isEmpty = true := by
  have h0 : s.data.toList = [] := List.eq_nil_of_length_eq_zero (by simpa using h)
  rw [ByteArray.toList_eq, h0]; rfl
theorem empty_false {s : ByteArray} (h : ¬ s.size = 0) : s.toList.isEmpty = false := by
  rw [ByteArray.toList_eq]
  cases h2 : s.data.toList with
  | nil => exfalso; apply h; rw [← show s.data.toList.length = s.size by simp, h2]; rfl
  | cons _ _ => rfl

set_option maxRecDepth 100000 in
set_option maxHeartbeats 4000000 in
theorem l4Shuffle_end (k : Nat) (p a b : ByteArray) (base : Nat) (v : Value) (acc : List Tm) (N : Nat) (B : Int) (w : World) (he : a.size = 0 ∨ b.size = 0) (hs : p.size + a.size + b.size ≤ 4) (hA : Acc base w v acc N B) (hB0 : 0 ≤ B)
    (hN : N + (shufT k p a b).length ≤ 1000) (hB : B + (shufT k p a b).length ≤ 1000) (hbase : base ≤ w.heap.size) :
    Calls Try.prog 53 #[.string p, .string a, .string b, v] w fun e w' => (∃ v', e = .returned v' ∧ Acc base w' v' ((shufT k p a b).foldl addT acc) (N + (shufT k p a b).length) (B + (shufT k p a b).length)) ∧ Below w.heap.size w w' := by
  rw [shufT_end he] at hN hB ⊢
  simp only [List.length_singleton] at hN hB ⊢
  have hsz : (p ++ a ++ b).size ≤ 60 := by rw [append_size, append_size]; omega
  have hn1 : ¬ 9223372036854775807 < p.size + a.size := by omega
  have hn2 : ¬ 9223372036854775807 < (p ++ a).size + b.size := by rw [append_size]; omega
  have HST : Hid (Calls Try.prog 72 #[v, .int .i64 1, .string (p ++ a ++ b)] w fun e w' => (∃ v', e = .returned v' ∧ Acc base w' v' (addT acc ⟨1, p ++ a ++ b⟩) (N + 1) (B + 1)) ∧ Below w.heap.size w w') :=
    Lib.hid (step_any base v acc N B 1 1 (p ++ a ++ b) w hA (by omega) hB0 (by omega) (by omega) (by omega) hsz hbase)
  clear hA hs hsz
  by_cases ha : a.size = 0
  · have hqa := empty_true ha
    clear ha he
    go_enter Try.func53, Try.ntmps53
    go_wp2_with fail
    refine HST.out.mono ?_
    rintro e w1 ⟨⟨v', rfl, ho⟩, hb⟩
    have HO := Lib.hid ho
    clear ho
    go_wp2
    go_ret
    exact ⟨⟨_, rfl, HO.out⟩, hb⟩
  · have hqa := empty_false ha
    have hqb := empty_true (he.resolve_left ha)
    clear ha he
    go_enter Try.func53, Try.ntmps53
    go_wp2_with fail
    refine HST.out.mono ?_
    rintro e w1 ⟨⟨v', rfl, ho⟩, hb⟩
    have HO := Lib.hid ho
    clear ho
    go_wp2
    go_ret
    exact ⟨⟨_, rfl, HO.out⟩, hb⟩

set_option maxRecDepth 100000 in
set_option maxHeartbeats 4000000 in
theorem l4Shuffle_any (k : Nat) : ∀ (p a b : ByteArray) (base : Nat) (v : Value) (acc : List Tm) (N : Nat) (B : Int) (w : World), a.size + b.size ≤ k → p.size + a.size + b.size ≤ 4 → Acc base w v acc N B → 0 ≤ B →
    N + (shufT k p a b).length ≤ 1000 → B + (shufT k p a b).length ≤ 1000 → base ≤ w.heap.size →
    Calls Try.prog 53 #[.string p, .string a, .string b, v] w fun e w' => (∃ v', e = .returned v' ∧ Acc base w' v' ((shufT k p a b).foldl addT acc) (N + (shufT k p a b).length) (B + (shufT k p a b).length)) ∧ Below w.heap.size w w' := by
  induction k with
  | zero =>
    intro p a b base v acc N B w hk hs hA hB0 hN hB hbase
    exact l4Shuffle_end 0 p a b base v acc N B w (by omega) hs hA hB0 hN hB hbase
  | succ k ih =>
    intro p a b base v acc N B w hk hs hA hB0 hN hB hbase
    by_cases he : a.size = 0 ∨ b.size = 0
    · exact l4Shuffle_end (k + 1) p a b base v acc N B w he hs hA hB0 hN hB hbase
    · have ha : ¬ a.size = 0 := fun h => he (.inl h)
      have hb : ¬ b.size = 0 := fun h => he (.inr h)
      have hqa := empty_false ha
      have hqb := empty_false hb
      have hmx : Try.prog.follows .mixedOrders = true := by kernel_rfl
      have sa0 : (a.extract 0 1).size = 1 := by rw [ByteArray.size_extract]; omega
      have sa1 : (a.extract 1 a.size).size = a.size - 1 := by rw [ByteArray.size_extract]; omega
      have sb0 : (b.extract 0 1).size = 1 := by rw [ByteArray.size_extract]; omega
      have sb1 : (b.extract 1 b.size).size = b.size - 1 := by rw [ByteArray.size_extract]; omega
      have hsplit := shufT_go (k := k) (p := p) ha hb
      obtain ⟨a0, ha0⟩ : ∃ x, a.extract 0 1 = x := ⟨_, rfl⟩
      obtain ⟨a1, ha1⟩ : ∃ x, a.extract 1 a.size = x := ⟨_, rfl⟩
      obtain ⟨b0, hb0⟩ : ∃ x, b.extract 0 1 = x := ⟨_, rfl⟩
      obtain ⟨b1, hb1⟩ : ∃ x, b.extract 1 b.size = x := ⟨_, rfl⟩
      rw [ha0, ha1, hb0, hb1] at hsplit
      rw [ha0] at sa0
      rw [ha1] at sa1
      rw [hb0] at sb0
      rw [hb1] at sb1
      obtain ⟨t1, ht1⟩ : ∃ t, shufT k (p ++ a0) a1 b = t := ⟨_, rfl⟩
      obtain ⟨t2, ht2⟩ : ∃ t, shufT k (p ++ b0) a b1 = t := ⟨_, rfl⟩
      rw [ht1, ht2] at hsplit
      rw [hsplit, List.length_append] at hN hB ⊢
      have hB' : B + t1.length + t2.length ≤ 1000 := by omega
      have H1 : Hid (∀ W : World, Below w.heap.size w W → Calls Try.prog 53 #[.string (p ++ a0), .string a1, .string b, v] W fun e w' => (∃ v', e = .returned v' ∧ Acc base w' v' (t1.foldl addT acc) (N + t1.length) (B + t1.length)) ∧ Below W.heap.size W w') := Lib.hid fun W hW => by
        have h := ih (p ++ a0) a1 b base v acc N B W (by omega) (by rw [append_size]; omega) (hA.below hW) hB0 (by rw [ht1]; omega) (by rw [ht1]; omega) (Nat.le_trans hbase hW.size)
        rw [ht1] at h
        exact h
      have H2 : Hid (∀ (v' : Value) (W : World), Acc base W v' (t1.foldl addT acc) (N + t1.length) (B + t1.length) → base ≤ W.heap.size → Calls Try.prog 53 #[.string (p ++ b0), .string a, .string b1, v'] W fun e w' => (∃ v'', e = .returned v'' ∧ Acc base w' v'' (t2.foldl addT (t1.foldl addT acc)) (N + t1.length + t2.length) (B + t1.length + t2.length)) ∧ Below W.heap.size W w') := Lib.hid fun v' W hA2 hbs => by
        have h := ih (p ++ b0) a b1 base v' (t1.foldl addT acc) (N + t1.length) (B + t1.length) W (by omega) (by rw [append_size]; omega) hA2 (by omega) (by rw [ht2]; omega) (by rw [ht2]; omega) hbs
        rw [ht2] at h
        exact h
      have hn1 : ¬ 9223372036854775807 < p.size + a0.size := by omega
      have hn2 : ¬ 9223372036854775807 < p.size + b0.size := by omega
      have ha1' : 1 ≤ a.size := by omega
      have hb1' : 1 ≤ b.size := by omega
      have hai : (1 : Int) ≤ a.size := by omega
      have hbi : (1 : Int) ≤ b.size := by omega
      clear hsplit ht1 ht2 hN hB ih hA he sa0 sa1 sb0 sb1 hk
      go_enter Try.func53, Try.ntmps53
      go_wp2_with fail
      refine wp_region_below_tail 8 hmx (by kernel_rfl) ?_
      simp only [List.take_succ_cons, List.take_zero, List.drop_succ_cons, List.drop_zero]
      repeat (((with_reducible refine wpQuiet_step (fun K hK => ?_)); go_simp; first | ((with_reducible refine hK _ ?_); clear hK K) | (refine (if_neg (by decide)).mpr ?_; (with_reducible refine hK _ ?_); clear hK K)))
      with_reducible refine wpQuiet_nil ?_
      rintro W ⟨⟨W, hW⟩, rfl⟩
      change wpList _ _ _ _ _ W
      go_wp2_with fail
      refine (H1.out W hW).mono ?_
      rintro e w2 ⟨⟨v2, rfl, ho2⟩, hb2⟩
      have HO2 := Lib.hid ho2
      have HB2 := Lib.hid (hW.trans (hb2.mono hW.size))
      clear ho2 hb2
      go_wp2_with fail
      refine wp_region_below_tail 8 hmx (by kernel_rfl) ?_
      simp only [List.take_succ_cons, List.take_zero, List.drop_succ_cons, List.drop_zero]
      repeat (((with_reducible refine wpQuiet_step (fun K hK => ?_)); go_simp; first | ((with_reducible refine hK _ ?_); clear hK K) | (refine (if_neg (by decide)).mpr ?_; (with_reducible refine hK _ ?_); clear hK K)))
      with_reducible refine wpQuiet_nil ?_
      rintro W2 ⟨⟨W2, hW2⟩, rfl⟩
      change wpList _ _ _ _ _ W2
      have hB3 : Below w.heap.size w W2 := HB2.out.trans (hW2.mono HB2.out.size)
      go_wp2_with fail
      refine (H2.out v2 W2 (HO2.out.below hW2) (Nat.le_trans hbase hB3.size)).mono ?_
      rintro e w4 ⟨⟨v4, rfl, ho4⟩, hb4⟩
      have HO4 := Lib.hid ho4
      clear ho4
      go_wp2
      go_ret
      refine ⟨⟨_, rfl, ?_⟩, hB3.trans (hb4.mono hB3.size)⟩
      rw [List.foldl_append]
      exact HO4.out.more (by omega) (by omega)

/-- What SeriesShuffle answers. -/
def shufB (a b : ByteArray) : Bool := monoB a && (monoB b && decide (a.size + b.size ≤ 4))
theorem shuf_mono : ∀ (k : Nat) (p a b : ByteArray), monoB p = true → monoB a = true → monoB b = true → p.size + a.size + b.size ≤ 4 → ∀ t ∈ shufT k p a b, monoB t.s = true ∧ t.c = 1 := by
  have one : ∀ (p a b : ByteArray), monoB p = true → monoB a = true → monoB b = true → p.size + a.size + b.size ≤ 4 → ∀ t ∈ [(⟨1, p ++ a ++ b⟩ : Tm)], monoB t.s = true ∧ t.c = 1 := fun p a b hp ha hb hs t ht => by
    rw [List.mem_singleton.1 ht]
    exact ⟨mono_append (mono_append hp ha (by rw [append_size]; omega)) hb (by rw [append_size, append_size]; omega), rfl⟩
  have part : ∀ (s : ByteArray) (i j : Nat), monoB s = true → monoB (s.extract i j) = true := fun s i j h => by
    have h4 := mono_size h
    unfold monoB at *
    simp only [Bool.and_eq_true, decide_eq_true_eq] at *
    refine ⟨List.all_eq_true.2 fun c hc => List.all_eq_true.1 h.1 c ?_, by rw [ByteArray.size_extract]; omega⟩
    rw [Lib.extract_data] at hc
    exact List.mem_of_mem_drop (List.mem_of_mem_take hc)
  intro k
  induction k with
  | zero => intro p a b hp ha hb hs t ht; exact one p a b hp ha hb hs t ht
  | succ k ih =>
    intro p a b hp ha hb hs t ht
    rw [shufT] at ht
    split at ht
    · exact one p a b hp ha hb hs t ht
    · rename_i hne
      have sa0 : (a.extract 0 1).size = 1 := by rw [ByteArray.size_extract]; omega
      have sa1 : (a.extract 1 a.size).size = a.size - 1 := by rw [ByteArray.size_extract]; omega
      have sb0 : (b.extract 0 1).size = 1 := by rw [ByteArray.size_extract]; omega
      have sb1 : (b.extract 1 b.size).size = b.size - 1 := by rw [ByteArray.size_extract]; omega
      rcases List.mem_append.1 ht with ht | ht
      · exact ih _ _ _ (mono_append hp (part a 0 1 ha) (by rw [append_size]; omega)) (part a 1 a.size ha) hb (by rw [append_size]; omega) t ht
      · exact ih _ _ _ (mono_append hp (part b 0 1 hb) (by rw [append_size]; omega)) ha (part b 1 b.size hb) (by rw [append_size]; omega) t ht
theorem shuf_tw {a b : ByteArray} (h : shufB a b = true) : twS (canonT (shufT 4 { data := #[] } a b)) = true := by
  unfold shufB at h
  simp only [Bool.and_eq_true, decide_eq_true_eq] at h
  obtain ⟨ha, hb, hs⟩ := h
  have hmem := shuf_mono 4 { data := #[] } a b (by decide) ha hb (by show 0 + a.size + b.size ≤ 4; omega)
  have hl := shufT_len 4 { data := #[] } a b
  have hl2 := fold_len (shufT 4 { data := #[] } a b) []
  have hbd := fold_bound (C := 1) (by omega) (shufT 4 { data := #[] } a b) [] 0 (by omega) (fun t ht => by rw [(hmem t ht).2]; omega) (fun u hu => by cases hu)
  simp only [List.length_nil] at hl2
  unfold twS inR
  rw [decide_eq_true (by show (canonT _).length ≤ 400; unfold canonT; omega), Bool.true_and]
  refine List.all_eq_true.2 fun t ht => ?_
  obtain ⟨v, hv, e⟩ := canon_words ht
  have h1 := hbd t ht
  rw [← e, (hmem v hv).1, decide_eq_true (by omega), decide_eq_true (by omega)]; rfl
theorem shufB_tw {a b : ByteArray} {r : Bool} (h : shufB a b = r) : r = true → twS (canonT (shufT 4 { data := #[] } a b)) = true := fun hr => shuf_tw (by rw [h, hr])

set_option maxRecDepth 100000 in
set_option maxHeartbeats 4000000 in
theorem sSeriesShuffle_any (a b : ByteArray) (r : Bool) (w : World) (ha : a.size ≤ 1048576) (hb : b.size ≤ 1048576) (hr : shufB a b = r) :
    Calls Try.prog 26 #[.string a, .string b] w (STold w r (canonT (shufT 4 { data := #[] } a b))) := by
  have hma : a.size ≤ maxLen := by unfold maxLen; omega
  have hmb : b.size ≤ maxLen := by unfold maxLen; omega
  unfold shufB at hr
  cases h1 : monoB a with
  | false =>
    rw [h1] at hr
    obtain rfl : false = r := hr
    have H1 := Lib.hid h1
    clear h1
    go_enter Try.func26, Try.ntmps26
    go_wp2_with fail
    refine (sMono_is a false _ hma H1.out).mono ?_
    rintro e w1 ⟨rfl, hb1⟩
    have HB1 := Lib.hid hb1
    clear hb1
    go_wp2
    go_ret2
    exact ⟨⟨_, rfl, (ownEmpty w1).mono HB1.out.size⟩, HB1.out.alloc HB1.out.size _⟩
  | true =>
    cases h2 : monoB b with
    | false =>
      rw [h1, h2] at hr
      obtain rfl : false = r := hr
      have H1 := Lib.hid h1
      have H2 := Lib.hid h2
      clear h1 h2
      go_enter Try.func26, Try.ntmps26
      go_wp2_with fail
      refine (sMono_is a true _ hma H1.out).mono ?_
      rintro e w1 ⟨rfl, hb1⟩
      have HB1 := Lib.hid hb1
      clear hb1
      go_wp2_with fail
      refine (sMono_is b false _ hmb H2.out).mono ?_
      rintro e w2 ⟨rfl, hb2⟩
      have HB2 := Lib.hid (HB1.out.trans (hb2.mono HB1.out.size))
      clear hb2
      go_wp2
      go_ret2
      exact ⟨⟨_, rfl, (ownEmpty w2).mono HB2.out.size⟩, HB2.out.alloc HB2.out.size _⟩
    | true =>
      rw [h1, h2, Bool.true_and, Bool.true_and] at hr
      have H1 := Lib.hid h1
      have H2 := Lib.hid h2
      have s1 := mono_size h1
      have s2 := mono_size h2
      by_cases hs : a.size + b.size ≤ 4
      · rw [decide_eq_true hs] at hr
        obtain rfl : true = r := hr
        have hl := shufT_len 4 { data := #[] } a b
        have HSh : Hid (∀ (base : Nat) (v : Value) (W : World), Acc base W v [] 0 0 → base ≤ W.heap.size → Calls Try.prog 53 #[.string { data := #[] }, .string a, .string b, v] W fun e w' => (∃ v', e = .returned v' ∧ Acc base w' v' (canonT (shufT 4 { data := #[] } a b)) 16 16) ∧ Below W.heap.size W w') := Lib.hid fun base v W hA hbs => by
          refine (l4Shuffle_any 4 { data := #[] } a b base v [] 0 0 W hs (by show 0 + a.size + b.size ≤ 4; omega) hA (by omega) (by omega) (by omega) hbs).mono ?_
          rintro e w' ⟨⟨v', he, ho⟩, hb'⟩
          exact ⟨⟨v', he, ho.more (by omega) (by omega)⟩, hb'⟩
        have hlt4 : ¬ 4 < (a.size : Int) + b.size := by omega
        have hdl : decide (4 < (a.size : Int) + b.size) = false := decide_eq_false hlt4
        clear h1 h2 hl
        go_enter Try.func26, Try.ntmps26
        go_wp2_with fail
        refine (sMono_is a true _ hma H1.out).mono ?_
        rintro e w1 ⟨rfl, hb1⟩
        have HB1 := Lib.hid hb1
        clear hb1
        go_wp2_with fail
        refine (sMono_is b true _ hmb H2.out).mono ?_
        rintro e w2 ⟨rfl, hb2⟩
        have HB2 := Lib.hid (HB1.out.trans (hb2.mono HB1.out.size))
        have hs2 := HB2.out.size
        clear hb2
        go_wp2_with fail
        refine (HSh.out w2.heap.size _ _ (acc_zero w2) (by simp)).mono ?_
        rintro e w3 ⟨⟨v3, rfl, ho3⟩, hb3⟩
        have HO3 := Lib.hid ho3.own
        have HB3 := Lib.hid ((HB2.out.alloc hs2 _).trans (hb3.mono (by simp; omega)))
        clear ho3 hb3
        go_wp2
        go_ret2
        exact ⟨⟨_, rfl, HO3.out.mono hs2⟩, HB3.out⟩
      · rw [decide_eq_false hs] at hr
        obtain rfl : false = r := hr
        have hlt4 : 4 < (a.size : Int) + b.size := by omega
        have hdl : decide (4 < (a.size : Int) + b.size) = true := decide_eq_true hlt4
        clear h1 h2 hs
        go_enter Try.func26, Try.ntmps26
        go_wp2_with fail
        refine (sMono_is a true _ hma H1.out).mono ?_
        rintro e w1 ⟨rfl, hb1⟩
        have HB1 := Lib.hid hb1
        clear hb1
        go_wp2_with fail
        refine (sMono_is b true _ hmb H2.out).mono ?_
        rintro e w2 ⟨rfl, hb2⟩
        have HB2 := Lib.hid (HB1.out.trans (hb2.mono HB1.out.size))
        clear hb2
        go_wp2
        go_ret2
        exact ⟨⟨_, rfl, (ownEmpty w2).mono HB2.out.size⟩, HB2.out.alloc HB2.out.size _⟩

end Go.Proofs.Ytmbffbjopehllaa

/- The contracts of the program's 'shuffle' and 'SeriesShuffle'. -/

namespace Go.Proofs.Ytmbffbjopehllaa
open Go.RowKit Go.Shelf

theorem mono_part {s : ByteArray} (i j : Nat) (h : monoB s = true) : monoB (s.extract i j) = true := by
  have h4 := mono_size h
  unfold monoB at *
  simp only [Bool.and_eq_true, decide_eq_true_eq] at *
  refine ⟨List.all_eq_true.2 fun c hc => List.all_eq_true.1 h.1 c ?_, by rw [ByteArray.size_extract]; omega⟩
  rw [Lib.extract_data] at hc
  exact List.mem_of_mem_drop (List.mem_of_mem_take hc)
theorem bnd_append {M : Int} {a b : List Tm} (h1 : BndT M a) (h2 : BndT M b) : BndT M (a ++ b) := fun t ht => (List.mem_append.1 ht).elim (h1 t) (h2 t)

/-- What a shuffle has done to the map: its ways added. -/
def Shuf (mb : Nat) (L : List Tm) (w : World) (e : Ending) (w' : World) : Prop :=
  e = .returned (.tuple #[]) ∧ (∃ us, MapT w' mb us ∧ MonoT us ∧ ∀ q, coefAt q us = coefAt q L) ∧ w.grownBy w' (some mb)

set_option maxRecDepth 100000 in
set_option maxHeartbeats 4000000 in
theorem shuffle_end (k : Nat) (p a b : ByteArray) (mb : Nat) (ts L : List Tm) (w : World) (he : a.size = 0 ∨ b.size = 0) (hs : p.size + a.size + b.size ≤ 4) (hmo : monoB (p ++ a ++ b) = true)
    (hT : MapT w mb ts) (mT : MonoT ts) (hL : ∀ q, coefAt q ts = coefAt q L) (hB : BndT 1 L) (hlen : L.length ≤ 1000) :
    Calls Try.prog 54 #[.map (some mb), .string p, .string a, .string b] w (Shuf mb (L ++ shufT k p a b) w) := by
  rw [shufT_end he]
  have hn1 : ¬ 9223372036854775807 < p.size + a.size := by omega
  have hn2 : ¬ 9223372036854775807 < (p ++ a).size + b.size := by rw [append_size]; omega
  have hqm : (p ++ a ++ b).size ≤ maxLen := by rw [append_size, append_size]; unfold maxLen; omega
  obtain ⟨z, hz⟩ : ∃ z, coefAt (p ++ a ++ b) ts = z := ⟨_, rfl⟩
  have hzb : -1000 ≤ z ∧ z ≤ 1000 := by
    have := coef_bnd (by omega) (p ++ a ++ b) hB
    rw [← hL, hz] at this
    omega
  have hadd : IntKind.i64.wrap (z + 1) = z + 1 := IntWalk.i64_in _ (by omega)
  have hwf : (Lit.int .i64 (z + 1)).wf = true := by
    simp only [Lit.wf, Bool.and_eq_true, decide_eq_true_eq]
    have e1 : IntKind.i64.min = -9223372036854775808 := by decide
    have e2 : IntKind.i64.max = 9223372036854775807 := by decide
    omega
  have hul : ts.length < maxLen := by have := apart_len341 hT.apart mT; unfold maxLen; omega
  have HQM := Lib.hid hqm
  have HZ := Lib.hid hz
  have HWF := Lib.hid hwf
  have HUL := Lib.hid hul
  have HT := Lib.hid hT
  have HEnd : Hid (∀ w' : World, MapT w' mb (putT ts (p ++ a ++ b) (z + 1)) → w.grownBy w' (some mb) → (∃ us, MapT w' mb us ∧ MonoT us ∧ ∀ q, coefAt q us = coefAt q (L ++ [⟨1, p ++ a ++ b⟩])) ∧ w.grownBy w' (some mb)) :=
    Lib.hid fun w' h hg => ⟨⟨_, h, mono_put mT hmo, fun q => by rw [← put_add _ 1 hL q, hz]⟩, hg⟩
  clear hqm hz hzb hwf hul hT mT hL hB hlen hmo
  by_cases ha : a.size = 0
  · have hqa := empty_true ha
    clear ha he hs
    go_enter Try.func54, Try.ntmps54
    go_wp2_with (first | (refine wpList_lookup_map _ rfl _ _ rfl mb ts rfl HT.out (p ++ a ++ b) rfl HQM.out ?_; rw [HZ.out]) | (refine wpList_update_map _ rfl _ _ _ rfl mb ts rfl HT.out HUL.out (p ++ a ++ b) (z + 1) rfl rfl HQM.out HWF.out ?_; intro w5 h5 hg5; simp only [Act.put]) | go_in)
    refine bodyPost_ret (by simp [results, Try.f54, go_sem]; rfl) rfl ?_
    exact ⟨rfl, HEnd.out _ h5 hg5⟩
  · have hqa := empty_false ha
    have hqb := empty_true (he.resolve_left ha)
    clear ha he hs
    go_enter Try.func54, Try.ntmps54
    go_wp2_with (first | (refine wpList_lookup_map _ rfl _ _ rfl mb ts rfl HT.out (p ++ a ++ b) rfl HQM.out ?_; rw [HZ.out]) | (refine wpList_update_map _ rfl _ _ _ rfl mb ts rfl HT.out HUL.out (p ++ a ++ b) (z + 1) rfl rfl HQM.out HWF.out ?_; intro w5 h5 hg5; simp only [Act.put]) | go_in)
    refine bodyPost_ret (by simp [results, Try.f54, go_sem]; rfl) rfl ?_
    exact ⟨rfl, HEnd.out _ h5 hg5⟩

set_option maxRecDepth 100000 in
set_option maxHeartbeats 4000000 in
theorem shuffle_any (k : Nat) : ∀ (p a b : ByteArray) (mb : Nat) (ts L : List Tm) (w : World), a.size + b.size ≤ k → p.size + a.size + b.size ≤ 4 → monoB p = true → monoB a = true → monoB b = true →
    MapT w mb ts → MonoT ts → (∀ q, coefAt q ts = coefAt q L) → BndT 1 L → L.length + (shufT k p a b).length ≤ 1000 →
    Calls Try.prog 54 #[.map (some mb), .string p, .string a, .string b] w (Shuf mb (L ++ shufT k p a b) w) := by
  induction k with
  | zero =>
    intro p a b mb ts L w hk hs mp ma mb' hT mT hL hB hlen
    exact shuffle_end 0 p a b mb ts L w (by omega) hs (mono_append (mono_append mp ma (by rw [append_size]; omega)) mb' (by rw [append_size, append_size]; omega)) hT mT hL hB (by omega)
  | succ k ih =>
    intro p a b mb ts L w hk hs mp ma mb' hT mT hL hB hlen
    by_cases he : a.size = 0 ∨ b.size = 0
    · exact shuffle_end (k + 1) p a b mb ts L w he hs (mono_append (mono_append mp ma (by rw [append_size]; omega)) mb' (by rw [append_size, append_size]; omega)) hT mT hL hB (by omega)
    · have ha : ¬ a.size = 0 := fun h => he (.inl h)
      have hb : ¬ b.size = 0 := fun h => he (.inr h)
      have hqa := empty_false ha
      have hqb := empty_false hb
      have hmx : Try.prog.follows .mixedOrders = true := by kernel_rfl
      have sa0 : (a.extract 0 1).size = 1 := by rw [ByteArray.size_extract]; omega
      have sa1 : (a.extract 1 a.size).size = a.size - 1 := by rw [ByteArray.size_extract]; omega
      have sb0 : (b.extract 0 1).size = 1 := by rw [ByteArray.size_extract]; omega
      have sb1 : (b.extract 1 b.size).size = b.size - 1 := by rw [ByteArray.size_extract]; omega
      have ma0 := mono_part 0 1 ma
      have ma1 := mono_part 1 a.size ma
      have mb0 := mono_part 0 1 mb'
      have mb1 := mono_part 1 b.size mb'
      have hsplit := shufT_go (k := k) (p := p) ha hb
      obtain ⟨a0, ha0⟩ : ∃ x, a.extract 0 1 = x := ⟨_, rfl⟩
      obtain ⟨a1, ha1⟩ : ∃ x, a.extract 1 a.size = x := ⟨_, rfl⟩
      obtain ⟨b0, hb0⟩ : ∃ x, b.extract 0 1 = x := ⟨_, rfl⟩
      obtain ⟨b1, hb1⟩ : ∃ x, b.extract 1 b.size = x := ⟨_, rfl⟩
      rw [ha0, ha1, hb0, hb1] at hsplit
      rw [ha0] at sa0 ma0
      rw [ha1] at sa1 ma1
      rw [hb0] at sb0 mb0
      rw [hb1] at sb1 mb1
      have mpa : monoB (p ++ a0) = true := mono_append mp ma0 (by rw [append_size]; omega)
      have mpb : monoB (p ++ b0) = true := mono_append mp mb0 (by rw [append_size]; omega)
      obtain ⟨t1, ht1⟩ : ∃ t, shufT k (p ++ a0) a1 b = t := ⟨_, rfl⟩
      obtain ⟨t2, ht2⟩ : ∃ t, shufT k (p ++ b0) a b1 = t := ⟨_, rfl⟩
      have bt1 : BndT 1 t1 := fun t ht => by
        rw [← ht1] at ht
        rw [(shuf_mono k _ _ _ mpa ma1 mb' (by rw [append_size]; omega) t ht).2]; omega
      rw [ht1, ht2] at hsplit
      rw [hsplit, List.length_append] at hlen
      rw [hsplit, ← List.append_assoc]
      have H1 : Hid (∀ W : World, Below w.heap.size w W → Calls Try.prog 54 #[.map (some mb), .string (p ++ a0), .string a1, .string b] W (Shuf mb (L ++ t1) W)) := Lib.hid fun W hW => by
        have h := ih (p ++ a0) a1 b mb ts L W (by omega) (by rw [append_size]; omega) mpa ma1 mb' (hT.below hW) mT hL hB (by rw [ht1]; omega)
        rw [ht1] at h
        exact h
      have H2 : Hid (∀ (us : List Tm) (W : World), MapT W mb us → MonoT us → (∀ q, coefAt q us = coefAt q (L ++ t1)) → Calls Try.prog 54 #[.map (some mb), .string (p ++ b0), .string a, .string b1] W (Shuf mb (L ++ t1 ++ t2) W)) := Lib.hid fun us W hU mU hq => by
        have h := ih (p ++ b0) a b1 mb us (L ++ t1) W (by omega) (by rw [append_size]; omega) mpb ma mb1 hU mU hq (bnd_append hB bt1) (by rw [ht2, List.length_append]; omega)
        rw [ht2] at h
        exact h
      have hn1 : ¬ 9223372036854775807 < p.size + a0.size := by omega
      have hn2 : ¬ 9223372036854775807 < p.size + b0.size := by omega
      have ha1' : 1 ≤ a.size := by omega
      have hb1' : 1 ≤ b.size := by omega
      have hai : (1 : Int) ≤ a.size := by omega
      have hbi : (1 : Int) ≤ b.size := by omega
      clear hsplit ht1 ht2 hlen hB ih hT mT hL he sa0 sa1 sb0 sb1 hk bt1 mpa mpb ma0 ma1 mb0 mb1 mp ma mb'
      go_enter Try.func54, Try.ntmps54
      go_wp2_with fail
      refine wp_region_below_tail 8 hmx (by kernel_rfl) ?_
      simp only [List.take_succ_cons, List.take_zero, List.drop_succ_cons, List.drop_zero]
      repeat (((with_reducible refine wpQuiet_step (fun K hK => ?_)); go_simp; first | ((with_reducible refine hK _ ?_); clear hK K) | (refine (if_neg (by decide)).mpr ?_; (with_reducible refine hK _ ?_); clear hK K)))
      with_reducible refine wpQuiet_nil ?_
      rintro W ⟨⟨W, hW⟩, rfl⟩
      change wpList _ _ _ _ _ W
      go_wp2_with fail
      refine (H1.out W hW).mono ?_
      rintro e w2 ⟨rfl, ⟨us, hU, mU, hq⟩, hg2⟩
      have HU := Lib.hid hU
      have HMU := Lib.hid mU
      have HQ := Lib.hid hq
      have HG2 := Lib.hid (((grown_of_below hW).but (some mb)).andThen hg2 (fun j ej => by cases ej; exact Or.inr rfl) : w.grownBy w2 (some mb))
      clear hU mU hq hg2
      go_wp2_with fail
      refine wp_region_below_tail 8 hmx (by kernel_rfl) ?_
      simp only [List.take_succ_cons, List.take_zero, List.drop_succ_cons, List.drop_zero]
      repeat (((with_reducible refine wpQuiet_step (fun K hK => ?_)); go_simp; first | ((with_reducible refine hK _ ?_); clear hK K) | (refine (if_neg (by decide)).mpr ?_; (with_reducible refine hK _ ?_); clear hK K)))
      with_reducible refine wpQuiet_nil ?_
      rintro W2 ⟨⟨W2, hW2⟩, rfl⟩
      change wpList _ _ _ _ _ W2
      go_wp2_with fail
      refine (H2.out us W2 (HU.out.below hW2) HMU.out HQ.out).mono ?_
      rintro e w4 ⟨rfl, hX, hg4⟩
      have HX := Lib.hid hX
      clear hX
      go_wp2
      refine bodyPost_ret (by simp [results, Try.f54, go_sem]; rfl) rfl ?_
      exact ⟨rfl, HX.out, HG2.out.andThen (((grown_of_below hW2).but (some mb)).andThen hg4 (fun j ej => by cases ej; exact Or.inr rfl)) (fun j ej => by cases ej; exact Or.inr rfl)⟩

/-! ### SeriesShuffle -/
set_option maxRecDepth 100000 in
set_option maxHeartbeats 4000000 in
theorem iSeriesShuffle_any (a b : ByteArray) (r : Bool) (w : World) (ha : a.size ≤ 1048576) (hb : b.size ≤ 1048576) (hr : shufB a b = r) :
    Calls Try.prog 27 #[.string a, .string b] w (ITold w r (canonT (shufT 4 { data := #[] } a b))) := by
  have hmm := @run_makeMap Try.prog
  have hma : a.size ≤ maxLen := by unfold maxLen; omega
  have hmb : b.size ≤ maxLen := by unfold maxLen; omega
  have HRR := Lib.hid hr
  unfold shufB at hr
  cases h1 : monoB a with
  | false =>
    rw [h1] at hr
    obtain rfl : false = r := hr
    have H1 := Lib.hid h1
    clear h1
    go_enter Try.func27, Try.ntmps27
    go_wp2_with fail
    refine (known4_is a false _ hma H1.out).mono ?_
    rintro e w1 ⟨rfl, hb1⟩
    have HB1 := Lib.hid hb1
    clear hb1
    go_wp2
    go_ret2
    exact ⟨⟨_, rfl, ownNil _ _⟩, HB1.out⟩
  | true =>
    have H1 := Lib.hid h1
    cases h2 : monoB b with
    | false =>
      rw [h1, h2] at hr
      obtain rfl : false = r := hr
      have H2 := Lib.hid h2
      clear h1 h2
      go_enter Try.func27, Try.ntmps27
      go_wp2_with fail
      refine (known4_is a true _ hma H1.out).mono ?_
      rintro e w1 ⟨rfl, hb1⟩
      have HB1 := Lib.hid hb1
      clear hb1
      go_wp2_with fail
      refine (known4_is b false _ hmb H2.out).mono ?_
      rintro e w2 ⟨rfl, hb2⟩
      have HB2 := Lib.hid (HB1.out.trans (hb2.mono HB1.out.size))
      clear hb2
      go_wp2
      go_ret2
      exact ⟨⟨_, rfl, ownNil _ _⟩, HB2.out⟩
    | true =>
      rw [h1, h2, Bool.true_and, Bool.true_and] at hr
      have H2 := Lib.hid h2
      have ha4 := mono_size h1
      have hb4 := mono_size h2
      by_cases h4 : a.size + b.size ≤ 4
      · rw [decide_eq_true h4] at hr
        obtain rfl : true = r := hr
        have hgt : decide ((4 : Int) < (a.size : Int) + (b.size : Int)) = false := decide_eq_false (by omega)
        have hadd : IntKind.i64.wrap ((a.size : Int) + (b.size : Int)) = (a.size : Int) + (b.size : Int) := IntWalk.i64_in _ (by omega)
        have HL := Lib.hid (shufT_len 4 { data := #[] } a b)
        have HTW := Lib.hid (shufB_tw HRR.out rfl)
        clear h1 h2
        go_enter Try.func27, Try.ntmps27
        go_wp2_with fail
        refine (known4_is a true _ hma H1.out).mono ?_
        rintro e w1 ⟨rfl, hb1⟩
        have HB1 := Lib.hid hb1
        clear hb1
        go_wp2_with fail
        refine (known4_is b true _ hmb H2.out).mono ?_
        rintro e w2 ⟨rfl, hb2⟩
        have HB2 := Lib.hid (HB1.out.trans (hb2.mono HB1.out.size))
        clear hb2
        have h0 := mapT_made w2
        have hB3 : Below w.heap.size w (w2.alloc (.map #[] 0)) := HB2.out.alloc HB2.out.size _
        have hs2 := HB2.out.size
        obtain ⟨mb, hmb'⟩ : ∃ mb, w2.heap.size = mb := ⟨_, rfl⟩
        rw [hmb'] at h0 hs2
        have HMB := Lib.hid hmb'
        have HB3 := Lib.hid hB3
        have H0 := Lib.hid h0
        clear hB3 h0 hmb'
        go_wp2_with fail
        try simp only [HMB.out]
        refine (shuffle_any 4 { data := #[] } a b mb [] [] _ h4 (by show 0 + a.size + b.size ≤ 4; omega) (by decide) H1.out H2.out H0.out (fun t ht => by cases ht) (fun _ => rfl) (fun t ht => by cases ht) (by have := HL.out; simp only [List.length_nil]; omega)).mono ?_
        rintro e w4 ⟨rfl, ⟨us, hU, mU, hq⟩, hg⟩
        have hlu := apart_len341 hU.apart mU
        have HC := Lib.hid (show canonT us = canonT (shufT 4 { data := #[] } a b) from canon_same fun q => by rw [hq, List.nil_append])
        have HB4 := Lib.hid (HB3.out.grown hg HB3.out.size (fun j ej => by cases ej; exact hs2))
        have hs4 := HB4.out.size
        have HU := Lib.hid hU
        clear hU mU hq hg
        go_wp2_with fail
        refine (seriesTold_any mb us true _ HU.out (by omega) (by rw [HC.out]; exact HTW.out)).mono ?_
        rintro e w5 ⟨⟨v, rfl, ho⟩, hb5⟩
        rw [HC.out] at ho
        have HO := Lib.hid ho
        have HB5 := Lib.hid (HB4.out.trans (hb5.mono hs4))
        clear ho hb5
        go_wp2
        go_ret2
        exact ⟨⟨_, rfl, HO.out.mono hs4⟩, HB5.out⟩
      · rw [decide_eq_false h4] at hr
        obtain rfl : false = r := hr
        have hgt : decide ((4 : Int) < (a.size : Int) + (b.size : Int)) = true := decide_eq_true (by omega)
        have hadd : IntKind.i64.wrap ((a.size : Int) + (b.size : Int)) = (a.size : Int) + (b.size : Int) := IntWalk.i64_in _ (by omega)
        clear h1 h2
        go_enter Try.func27, Try.ntmps27
        go_wp2_with fail
        refine (known4_is a true _ hma H1.out).mono ?_
        rintro e w1 ⟨rfl, hb1⟩
        have HB1 := Lib.hid hb1
        clear hb1
        go_wp2_with fail
        refine (known4_is b true _ hmb H2.out).mono ?_
        rintro e w2 ⟨rfl, hb2⟩
        have HB2 := Lib.hid (HB1.out.trans (hb2.mono HB1.out.size))
        clear hb2
        go_wp2
        go_ret2
        exact ⟨⟨_, rfl, ownNil _ _⟩, HB2.out⟩

/-! ### As a law wants them -/
theorem sSeriesShuffle_law {a b : ByteArray} {r : Bool} {w : World} (ha : a.size ≤ 1048576) (hb : b.size ≤ 1048576) (hr : shufB a b = r) :
    Calls Try.prog 26 #[.string a, .string b] w (STold w r (canonT (shufT 4 { data := #[] } a b))) := sSeriesShuffle_any a b r w ha hb hr
theorem iSeriesShuffle_law {a b : ByteArray} {r : Bool} {w : World} (ha : a.size ≤ 1048576) (hb : b.size ≤ 1048576) (hr : shufB a b = r) :
    Calls Try.prog 27 #[.string a, .string b] w (ITold w r (canonT (shufT 4 { data := #[] } a b))) := iSeriesShuffle_any a b r w ha hb hr

end Go.Proofs.Ytmbffbjopehllaa

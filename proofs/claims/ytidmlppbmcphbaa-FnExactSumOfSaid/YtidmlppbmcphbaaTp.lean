/- The contracts of slices.Values, slices.AppendSeq and slices.Collect at terms. -/
import Derived.Test.YtidmlppbmcphbaaTn
import Derived.Test.YtidmlppbmcphbaaIl
import Derived.Test.YtidmlppbmcphbaaTq
namespace Go.Proofs.Ytidmlppbmcphbaa
open Go.RowKit Go.Shelf

attribute [local go_sem] Oper.semAt_some

abbrev encM (x : Tm) : Array Value := #[.agg #[.int .i64 x.c, .string x.s]]
abbrev VT : Nat := 122
abbrev ST : TypeId := 25

set_option maxRecDepth 100000 in
set_option maxHeartbeats 1000000 in
/-- slices.Values at terms. -/
theorem valuesT_in (n : Nat) (hn : 1 ≤ n) (l Bs n₀ : Nat) (ts : List Tm) (a : Option Addr) (cap len : Nat) (hlen : ts.length = len) (hm : len ≤ maxLen) (J : List Tm → World → Prop) (V : World) (hJ : OwnFrom V.heap.size J) (hn₀ : n₀ ≤ V.heap.size)
    (hY : ∀ pre x W, J pre W → pre ++ [x] <+: ts → YieldAt Fence.wide (n - 1) Try.prog l (encM x) W fun e W' => e = .returned (.bool true) ∧ J (pre ++ [x]) W' ∧ Below n₀ W W')
    (hBs : V.cell? ⟨Bs, 0, none⟩ = some (.slice a len cap)) (hw : 0 < len → ∃ x, a = some x ∧ x.block < n₀ ∧ TermsAt V x ts) (h0 : J [] V) :
    CallsIn Fence.wide n Try.prog VT #[.func (.yield l) #[] #[], .pointer (some ⟨Bs, 0, none⟩)] V fun e W' => (∃ v, e = .returned v) ∧ J ts W' := by
  have HW := Lib.hid hw
  have HL := Lib.hid hlen
  clear hw hlen
  unfold maxLen at hm
  refine callsIn_of_wp Try.func122 rfl trivial ?_ rfl
  simp only [Try.ntmps122, List.size_toArray, List.length_cons, List.length_nil, Nat.reduceAdd, Nat.reduceSub, Array.replicate_succ, Array.replicate_zero, List.push_toArray, List.append_toArray, List.nil_append, List.cons_append]
  gi_wp2
  gi_loopw [7] (fun i wr => ∃ k : Nat, k ≤ len ∧ i = .int .i64 k ∧ J (ts.take k) wr ∧ Below n₀ V wr) (fun i _ => len - (intOf i).toNat)
  case atStart => exact ⟨0, Nat.zero_le _, rfl, h0, Below.refl _ _⟩
  case round =>
    obtain ⟨k, hk, rfl, hJs, hnx⟩ := hrel
    by_cases hlt : k < len
    · have hkl : k < ts.length := by rw [HL.out]; exact hlt
      obtain ⟨ad, rfl, hb, hx⟩ := HW.out (by omega)
      obtain ⟨t, ht⟩ : ∃ t, ts[k] = t := ⟨_, rfl⟩
      have hc := hx.2 k hkl
      rw [ht, addr_next] at hc
      have c0 := (hnx.cell (p := ad.add (k * 2)) (by rw [addr_add_block]; exact hb)).trans hc.1
      have c1 := (hnx.cell (p := ⟨(ad.add (k * 2)).block, (ad.add (k * 2)).off + 1, none⟩) (by show (ad.add (k * 2)).block < _; rw [addr_add_block]; exact hb)).trans hc.2
      have HS : Hid (ts.take (k + 1) = ts.take k ++ [t]) := by rw [← ht]; exact Lib.hid (List.take_succ_eq_append_getElem hkl)
      have hJa := hJ.alloc (Obj.cells #[.int .i64 t.c, .string t.s] TI) hJs
      obtain ⟨fn, tmps, assign, body, hy, hR⟩ := hY _ t _ hJa (by rw [← HS.out]; exact List.take_prefix _ _)
      have hba : Below n₀ wr (wr.alloc (Obj.cells #[.int .i64 t.c, .string t.s] TI)) := (Below.refl _ _).alloc (Nat.le_trans hn₀ hnx.size) _
      have HBa := Lib.hid hba
      clear ht hkl hc hx hJa hba
      gi_wp2
      refine hR.mono ?_
      rintro e W3 ⟨rfl, hJ3, hk3⟩
      gi_wp2
      go_roundw
      case rel => exact ⟨k + 1, by omega, by simp, by rw [HS.out]; exact hJ3, hnx.trans (HBa.out.trans hk3)⟩
      case measure => simp [intOf]; omega
    · have HA : Hid (ts.take k = ts) := Lib.hid (List.take_of_length_le (by rw [HL.out]; omega))
      gi_wp2
      go_end0
      exact ⟨⟨_, rfl⟩, by rw [← HA.out]; exact hJs⟩

theorem valuesT_any (a : Option Addr) (len cap : Nat) (w : World) :
    Calls Try.prog 110 #[.slice a len cap] w fun e w' => e = .returned (.func (.func VT) #[] #[.pointer (some ⟨w.heap.size, 0, none⟩)]) ∧ w' = w.alloc (.cells #[.slice a len cap] ST) := by
  go_enter Try.func110, Try.ntmps110
  go_wp2
  go_ret
  exact ⟨rfl, rfl⟩

/-- The box B holds a slice that owns the terms. -/
def HoldT (base B : Nat) (pre : List Tm) (W : World) : Prop :=
  ∃ v, Boxed W B ST v ∧ W.ownsRow base TI 2 v pre.length (termsV pre) ∧ True
theorem HoldT.own (base B : Nat) : Own (HoldT base B) := holdsRow_own base B ST TI 2 (fun pre : List Tm => pre.length) (fun pre => termsV pre) (fun _ _ => True)

set_option maxRecDepth 100000 in
set_option maxHeartbeats 4000000 in
theorem appendSeq_in (n : Nat) (hn : 20 ≤ n) (Bs : Nat) (ts : List Tm) (a : Option Addr) (cap len : Nat) (w : World) (hlen : ts.length = len) (hm : len ≤ 1000000) (hBsz : Bs < w.heap.size)
    (hBs : w.cell? ⟨Bs, 0, none⟩ = some (.slice a len cap)) (hw : 0 < len → ∃ x, a = some x ∧ TermsAt w x ts) :
    CallsIn Fence.wide n Try.prog 126 #[.slice none 0 0, .func (.func VT) #[] #[.pointer (some ⟨Bs, 0, none⟩)]] w fun e w' =>
      (∃ v, e = .returned v ∧ w'.ownsRow w.heap.size TI 2 v len (termsV ts)) ∧ Below w.heap.size w w' := by
  obtain ⟨i0, hi, hz0, hz1, hz2⟩ := info_parts infoTerm
  have HW := Lib.hid hw
  have HL := Lib.hid hlen
  clear hw hlen
  refine callsIn_of_wp_marks Try.func126 rfl trivial ?_ rfl
  simp only [Try.ntmps126, List.size_toArray, List.length_cons, List.length_nil, Nat.reduceAdd, Nat.reduceSub, Array.replicate_succ, Array.replicate_zero, List.push_toArray, List.append_toArray, List.nil_append, List.cons_append]
  have hb0 := Boxed.new w ST (.slice none 0 0)
  have hBv : Below w.heap.size w (w.alloc (.cells #[.slice none 0 0] ST)) := (Below.refl _ w).alloc (Nat.le_refl _) _
  have hsz : (w.alloc (.cells #[.slice none 0 0] ST)).heap.size = w.heap.size + 1 := by simp
  obtain ⟨V, hV⟩ : ∃ V, w.alloc (.cells #[.slice none 0 0] ST) = V := ⟨_, rfl⟩
  rw [hV] at hb0 hBv hsz
  have HV := Lib.hid hV
  have HB0 := Lib.hid hb0
  clear hV hb0
  gi_wp2
  rw [HV.out]
  refine range_law2 (by omega) (gf := VT) (lb := #[.pointer (some ⟨Bs, 0, none⟩)]) rfl (enters_of Try.func122 (by kernel_rfl) rfl) (encs := encM) (fun _ => rfl) (KeepP w.heap.size) (fun h k => ⟨h.1.trans k.1, h.2.trans k.2⟩)
    (fun N W l o o' hl hwl hW ho hwk => ⟨belowK_b (w := V) (by omega) W l o o' hwl hW ho hwk, KeepsFrom.of_grownBy (grownBy_putObj' W l o') (fun j e => by cases e; exact hl)⟩)
    (fun h => ⟨h.1, keepsFrom_mono h.2 (by omega)⟩)
    (fun x => .cells #[.int .i64 x.c, .string x.s] TI) (fun N W o hs => ⟨(Below.refl _ _).alloc (by omega) _, (KeepsOthers.alloc _ _).from _⟩)
    (xs := ts)
    (fun l J X hX hlt hJ hY h0 => valuesT_in (n - 1) (by omega) l Bs w.heap.size ts a cap len HL.out (by unfold maxLen; omega) J X hJ (by omega) (fun pre x W1 hj hl => (hY pre x W1 hj hl).mono (fun _ _ ⟨a, b, c⟩ => ⟨a, b, c.1⟩))
      (((hX.cell (p := ⟨Bs, 0, none⟩) (by show Bs < V.heap.size; omega)).trans (hBv.cell (p := ⟨Bs, 0, none⟩) hBsz)).trans hBs) (fun h => by
        obtain ⟨ad, e, hx⟩ := HW.out h
        exact ⟨ad, e, hx.1, (hx.below hBv).below hX⟩) h0)
    (fun pre X => HoldT w.heap.size w.heap.size pre X ∧ Below w.heap.size w X)
    (OwnFrom.and (Own.from (HoldT.own _ _) _) (ownFrom_below (by omega) (by omega)))
    ⟨⟨_, HB0.out, ⟨rfl, .inl ⟨rfl, rfl⟩⟩, trivial⟩, hBv⟩
    (fun x b => { tmps := #[.slice none 0 0, .func (.func VT) #[] #[.pointer (some ⟨Bs, 0, none⟩)], .pointer (some ⟨w.heap.size, 0, none⟩), undef, .slice none 0 0, .pointer (some ⟨b, 0, none⟩), .func (.func VT) #[] #[.pointer (some ⟨Bs, 0, none⟩)], .agg #[.int .i64 x.c, .string x.s], undef, undef, undef, undef, undef], defers := [] }) ?assign ?body ?done
  case assign =>
    intro l x W K hK
    gi_wp2
    exact hK
  case body =>
    rintro l pre x b W ⟨⟨v, hbx, hrow, _⟩, hB⟩ hpre hsW hbn hb2
    have hplen := prefix_len hpre
    rw [HL.out] at hplen
    have hcell := hbx.cell
    have hbb : Boxed W b TI (.int .i64 0) → True := fun _ => trivial
    have c0 : W.cell? ⟨b, 0, none⟩ = some (.int .i64 x.c) := by simp [World.cell?, hbn]
    have c1 : W.cell? ⟨b, 1, none⟩ = some (.string x.s) := by simp [World.cell?, hbn]
    have HROW := Lib.hid hrow
    have HBX := Lib.hid hbx
    have HBn := Lib.hid hbn
    clear hrow hbx hpre hbn hbb
    have HPN := cell_pair_new W (.int .i64 x.c) (.string x.s) TI
    rw [hsW] at HPN
    have HP := Lib.hid HPN
    have hnr := HBX.out.not_row (by decide) HROW.out
    have HNR := Lib.hid hnr
    clear HPN hnr
    gi_wp2_with (refine wpListIn_append_own _ rfl (.tmp 8) (.tmp 10) ST rfl w.heap.size TI i0 (.agg #[.int .i64 0, .string ByteArray.empty]) 2 24 Try.underlying25 hi hz0 hz1 hz2 rfl (by decide) v pre.length (termsV pre) rfl (HROW.out.alloc _) ⟨b + 1, 0, none⟩ 1 1 [.int .i64 x.c, .string x.s] rfl rfl HP.out (fun u hu => by simp at hu; rcases hu with rfl | rfl <;> rfl) (by unfold maxLen; omega) (by omega) (by simp; omega) ?_)
    intro v' w1 hown' hgr' _
    have hbX : Boxed w1 w.heap.size ST v := (HBX.out.alloc _).kept hgr' HNR.out
    have hrowb : ∀ j, v.ownBlock = some j → w.heap.size ≤ j ∧ ∃ cs r, W.heap[j]? = some (.cells cs TI r) := by
      intro j ej
      rcases HROW.out.2 with ⟨rfl, _⟩ | ⟨g1', cap1', cur1, rfl, hg1, hg2, _⟩
      · cases ej
      · simp [Value.ownBlock] at ej
        subst ej
        exact ⟨hg1, _, _, hg2⟩
    have hko : KeepsOthers W (w1.setCell ⟨w.heap.size, 0, none⟩ v') := by
      refine (KeepsOthers.alloc _ _).trans ((KeepsOthers.of_grownBy hgr' fun j o ej hj => ?_).trans (KeepsOthers.setCell _ _ _))
      obtain ⟨hj1, cs, r, hjc⟩ := hrowb j ej
      have hlt : j < W.heap.size := (Array.getElem?_eq_some_iff.1 hjc).1
      rw [Below.heap_alloc _ _ _ hlt, hjc] at hj
      cases hj; rfl
    have hbel : Below w.heap.size W (w1.setCell ⟨w.heap.size, 0, none⟩ v') :=
      ((((Below.refl _ W).alloc (by omega) _).grown hgr' (by simp; omega) (fun j ej => (hrowb j ej).1))).setCell (p := ⟨w.heap.size, 0, none⟩) (Nat.le_refl _) _
    have hown'' : (w1.setCell ⟨w.heap.size, 0, none⟩ v').ownsRow w.heap.size TI 2 v' (pre.length + 1) (termsV pre ++ [.int .i64 x.c, .string x.s]) := hown'.kept (grownBy_setCell' w1 w.heap.size v') (.inr (hbX.not_row (by decide) hown').symm)
    have hcX := hbX.cell
    have hfX := hbX.frozen
    have hbs := hbX.set v'
    have HO := Lib.hid hown''
    have HKO := Lib.hid hko
    have HBL := Lib.hid hbel
    have HBS := Lib.hid hbs
    obtain ⟨g', cap', rfl⟩ := ownsRow_succ hown'
    clear hown' hown'' hgr' hko hbel hbs hrowb
    gi_wp2
    refine ⟨HKO.out.from _, ⟨HBL.out, HKO.out.from _⟩, ⟨_, HBS.out, ?_, trivial⟩, hB.trans HBL.out⟩
    rw [List.length_append, termsV_append]
    exact HO.out
  case done =>
    rintro D W hD ⟨⟨v, hbx, hrow, _⟩, hB⟩ hK
    have hcell := hbx.cell
    have HROW := Lib.hid hrow
    have HK := Lib.hid hK
    clear hrow hbx hK
    gi_wp2
    refine ⟨by simp, .inl ⟨_, _, rfl, run_takeDeferred HK.out, ?_⟩⟩
    refine ⟨v, by simp [results, Try.f126, go_sem], ⟨v, rfl, ?_⟩, hB.trans (belowK_b (w := w) (Nat.le_refl _) W D _ _ (by omega) HK.out rfl rfl)⟩
    have := ownsRow_putObj HROW.out (.deferred none) HK.out rfl
    rw [HL.out] at this
    exact this

theorem collect_any (Bs : Nat) (ts : List Tm) (a : Option Addr) (cap len : Nat) (w : World) (hlen : ts.length = len) (hm : len ≤ 1000000) (hBsz : Bs < w.heap.size)
    (hBs : w.cell? ⟨Bs, 0, none⟩ = some (.slice a len cap)) (hw : 0 < len → ∃ x, a = some x ∧ TermsAt w x ts) :
    Calls Try.prog 120 #[.func (.func VT) #[] #[.pointer (some ⟨Bs, 0, none⟩)]] w fun e w' =>
      (∃ v, e = .returned v ∧ w'.ownsRow w.heap.size TI 2 v len (termsV ts)) ∧ Below w.heap.size w w' := by
  have H := Lib.hid ((callsIn_wide (n := 30)).1 (appendSeq_in 30 (by omega) Bs ts a cap len w hlen hm hBsz hBs hw))
  clear hlen hBs hw
  go_enter Try.func120, Try.ntmps120
  go_wp2_with fail
  refine H.out.mono ?_
  rintro e w1 ⟨⟨v, rfl, ho⟩, hb⟩
  have HO := Lib.hid ho
  clear ho
  go_wp2
  go_ret
  exact ⟨⟨_, rfl, HO.out⟩, hb⟩

end Go.Proofs.Ytidmlppbmcphbaa

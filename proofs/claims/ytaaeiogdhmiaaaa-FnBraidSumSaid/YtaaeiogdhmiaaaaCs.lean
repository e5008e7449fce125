/- The contracts of the program's 'ends', BraidPerm and BraidKnot. -/
import Derived.Test.YtaaeiogdhmiaaaaCr
import Derived.Test.YtaaeiogdhmiaaaaCd
import Derived.Test.YtaaeiogdhmiaaaaCh
namespace Go.Proofs.Ytaaeiogdhmiaaaa
open Go.RowKit Go.Shelf

attribute [local go_sem] Oper.semAt_some

theorem linked_own (base B : Nat) (P : List UInt8 → List (Nat × Nat) → Prop) (hd : Nat) : OwnFrom B (fun (pre : List UInt8) X => ∃ l, LinkedN base X ((hd, 0) :: l) ∧ P pre l) := by
  rintro s X Y row ⟨l, hl, hp⟩ hg hr
  refine ⟨l, hl.kept fun i hi => hg.block _ (hl.lt hi) fun e => ?_, hp⟩
  obtain ⟨_, o, ho, hc⟩ := hr _ e.symm
  rw [(hl.2 i hi).2] at ho
  cases ho; cases hc

theorem swapL_cons (x : Nat × Nat) (l : List (Nat × Nat)) (p : Nat) : swapL (x :: l) (p + 1) = x :: swapL l p := by simp [swapL]
theorem swapL_mem {l : List (Nat × Nat)} {p : Nat} (hp : p + 1 < l.length) {x : Nat × Nat} (h : x ∈ swapL l p) : x ∈ l := by
  obtain ⟨i, hi, rfl⟩ := List.getElem_of_mem h
  have h1 := swapL_get l p i hp
  rw [List.getElem?_eq_getElem hi] at h1
  split at h1
  · exact List.mem_of_getElem? h1.symm
  · split at h1
    · exact List.mem_of_getElem? h1.symm
    · exact List.mem_of_getElem? h1.symm

set_option maxRecDepth 100000 in
set_option maxHeartbeats 4000000 in
theorem ends_in (m : Nat) (hm : 30 ≤ m) (N : Nat) (s : ByteArray) (w : World) (hb : braidB (N : Int) s = true) :
    CallsIn Fence.wide m Try.prog 82 #[brV N s] w fun e w' => ∃ v, e = .returned v ∧ IntRow w.heap.size w' v (permZ N s.data.toList) ∧ Below w.heap.size w w' := by
  obtain ⟨W, hW⟩ : ∃ W, w.alloc (.cells #[.int .i64 (N : Int), .string s] 26) = W := ⟨_, rfl⟩
  have HX := Lib.hid (oneBox hW)
  have HW := Lib.hid hW
  clear hW
  obtain ⟨⟨hN1, hN2⟩, hpl⟩ := braid_pl hb
  obtain ⟨_, hs30, hall⟩ := braid_all hb
  have HPL := Lib.hid hpl
  have HALL := Lib.hid hall
  clear hb hpl hall
  obtain ⟨i0, hi, hz0, hz1, hz2⟩ := info_parts infoInt
  obtain ⟨⟨c0, c1⟩, _, _⟩ := boxOf2 HX.out.2.2 (Below.refl _ W)
  refine callsIn_of_wp_marks Try.func82 rfl trivial ?_ rfl
  simp only [Try.ntmps82, List.size_toArray, List.length_cons, List.length_nil, Nat.reduceAdd, Nat.reduceSub, Array.replicate_succ, Array.replicate_zero, List.push_toArray, List.append_toArray, List.nil_append, List.cons_append]
  gi_wp2_with fail
  rw [HW.out]
  refine ⟨trivial, fun _ => by omega, ?_⟩
  refine (callsIn_wide.2 (strands_any N W (by omega))).mono ?_
  rintro e w1 ⟨hd, l0, rfl, hl0, hsnd, hb1⟩
  have hws : w.heap.size < w1.heap.size := by have h1 := HX.out.2.1; have h2 := hb1.size; omega
  obtain ⟨⟨c0', c1'⟩, _, _⟩ := boxOf2 HX.out.2.2 hb1
  clear c0 c1
  have c1 := (World.cell?_alloc_lt w1 (.cells #[.pointer (some ⟨hd, 0, none⟩)] 133) ⟨w.heap.size, 1, none⟩ hws).trans c1'
  have HL0 := Lib.hid hl0
  have HSN := Lib.hid hsnd
  have HB1 := Lib.hid hb1
  clear hl0 hsnd hb1 c0' c1'
  gi_wp2_with fail
  refine ⟨trivial, fun _ => by omega, ?_⟩
  refine (callsIn_wide.2 (signsOf_any s _)).mono ?_
  rintro e w2 ⟨rfl, rfl⟩
  clear c1
  obtain ⟨A, hA⟩ : ∃ A, w1.heap.size = A := ⟨_, rfl⟩
  have bA := (Boxed.new w1 133 (.pointer (some ⟨hd, 0, none⟩))).alloc (.cells #[.string s] 9)
  have bS := Boxed.new (w1.alloc (.cells #[.pointer (some ⟨hd, 0, none⟩)] 133)) 9 (.string s)
  have hB3 : Below w1.heap.size w1 ((w1.alloc (.cells #[.pointer (some ⟨hd, 0, none⟩)] 133)).alloc (.cells #[.string s] 9)) := ((Below.refl _ w1).alloc (Nat.le_refl _) _).alloc (by simp) _
  rw [World.size_alloc] at bS
  obtain ⟨W3, hW3⟩ : ∃ W3, (w1.alloc (.cells #[.pointer (some ⟨hd, 0, none⟩)] 133)).alloc (.cells #[.string s] 9) = W3 := ⟨_, rfl⟩
  have hs3 : W3.heap.size = A + 2 := by rw [← hW3]; simp [hA]
  simp only [World.size_alloc]
  rw [hW3] at bA bS hB3 ⊢
  rw [hA] at bA bS ⊢
  have HL3 := Lib.hid (HL0.out.below hB3)
  have HHD : Hid (hd < A) := Lib.hid (by rw [← hA]; exact HL0.out.lt (i := 0) (by simp))
  have HLA : Hid (∀ x ∈ l0, x.1 < A) := Lib.hid fun x hx => by
    obtain ⟨i, hi, rfl⟩ := List.getElem_of_mem hx
    rw [← hA]
    exact HL0.out.lt (i := i + 1) (by simpa using hi)
  have HA1 := Lib.hid hA
  clear hW3 hA
  gi_wp2_with fail
  refine range_signs (by omega) (s := s) (by omega) rfl bS
    (fun pre X => (Boxed X A 133 (.pointer (some ⟨hd, 0, none⟩)) ∧ Below W.heap.size W X ∧ W3.heap.size ≤ X.heap.size) ∧ ∃ l, LinkedN W.heap.size X ((hd, 0) :: l) ∧ l.map Prod.snd = atF (List.range N) pre ∧ ∀ x ∈ l, x.1 < A)
    (OwnFrom.and (OwnFrom.and (Own.from (fun pre X Y row hs hg hr => boxed_own A _ (fun _ : Unit => .pointer (some ⟨hd, 0, none⟩)) () X Y row hs hg hr) _) (OwnFrom.and (ownFrom_below (Nat.le_refl _) (by have := HB1.out.size; have := HA1.out; omega)) (fun s X Y row hs hgr hr => Nat.le_trans hs hgr.size))) (linked_own _ _ _ _))
    ⟨⟨bA, HB1.out.trans (hB3.mono HB1.out.size), Nat.le_refl _⟩, l0, HL3.out, HSN.out, HLA.out⟩ ?a1 ?assign ?body ?done
  case assign =>
    intro l x Y K hK
    gi_wp2
    exact hK
  case body =>
    rintro q pre x X ⟨⟨hbx, hB, hXs⟩, l, hl, hsl, hla⟩ hpre
    have HLa := Lib.hid hla
    clear hla
    have hmem := prefix_mem hpre
    have hpc := HPL.out x hmem
    have hpi := (pl_yes x (HALL.out x hmem).1).1
    have HPI := Lib.hid (fun w => (show Calls Try.prog 71 #[.int .u8 (x.toNat : Int)] w fun e w' => e = .returned (.int .i64 (plN x : Int)) ∧ w' = w from by rw [← hpi]; exact place_any x w))
    have hln : l.length = N := by have := congrArg List.length hsl; rw [List.length_map, atF_len] at this; simpa using this
    obtain ⟨p, hp⟩ : ∃ p, plN x = p := ⟨_, rfl⟩
    have hat : atF (List.range N) (pre ++ [x]) = swapN (l.map Prod.snd) p := by rw [atF_append, ← hsl, ← hp]; rfl
    rw [hp] at HPI hpc
    have HEX := Lib.hid (fun X' (h : LinkedN W.heap.size X' ((hd, 0) :: l)) => exchange_any W.heap.size hd p ((hd, 0) :: l) X' h (by simp; omega) (by omega) rfl)
    have hbc := hbx.cell
    have hd1 : 1 ≤ m - 1 - 1 := by omega
    have hmx : Try.prog.follows .mixedOrders = true := by kernel_rfl
    have HL := Lib.hid hl
    have HBX := Lib.hid hbx
    have HB := Lib.hid hB
    have HAT := Lib.hid hat
    have HLN := Lib.hid hln
    clear hl hsl hbx hB hat hln hmem hpre hpi hp
    gi_wp2
    gi_region_with_o (first
      | (refine ⟨trivial, ?_⟩; gi_at_call 71; refine (CallsIn.inRound q (callsIn_wide.2 (HPI.out _))).mono ?_; rintro e w' ⟨rfl, rfl⟩)
      | (refine ⟨trivial, ?_⟩; gi_at_call 117; refine (CallsIn.inRound q (callsIn_wide.2 (HEX.out X.drew HL.out))).mono ?_; rintro e X2 ⟨⟨v, rfl⟩, hl2, hk2, hb2, hko⟩))
    all_goals gi_wp2
    all_goals
      have hna : ∀ k, A ≤ k → X2.heap[k]? = X.heap[k]? := fun k hk => hk2 k (fun i hi e => by
        match i, hi with
        | 0, _ => have h1 := HHD.out; simp at e; omega
        | i + 1, hi => have h1 := HLa.out (l[i]'(by simpa using hi)) (List.getElem_mem _); simp at e; omega)
      have hko2 : KeepsOthers X X2 := (KeepsOthers.drew X).trans hko
      rw [swapL_cons] at hl2
      refine ⟨hko2.from _, ⟨hna _ (by omega), hko2.from _⟩, ⟨(hna A (Nat.le_refl _)).trans HBX.out, HB.out.drew.trans hb2, Nat.le_trans hXs hko2.size⟩, swapL l p, hl2, ?_, fun y hy => HLa.out y (swapL_mem (by have := HLN.out; omega) hy)⟩
      rw [swapL_snd l p (by have := HLN.out; omega), HAT.out]
  case done =>
    rintro D X hD ⟨⟨hbx, hB, hXs⟩, l, hl, hsl, hla⟩ hK
    have hln : l.length = N := by have := congrArg List.length hsl; rw [List.length_map, atF_len] at this; simpa using this
    have hsl' : l.map Prod.snd = atL N s.data.toList := hsl
    obtain ⟨a, ha⟩ : ∃ a, l.map Prod.snd = a := ⟨_, rfl⟩
    have hpm := atL_mem ⟨hN1, hN2⟩ s.data.toList HPL.out
    have hperm : permZ N s.data.toList = outK N a N := by unfold permZ; rw [← hsl', ha]
    rw [← hsl', ha] at hpm
    have hag : ∀ i (hi : i < l.length), (l[i]'hi).2 = a.getD i 0 := fun i hi => by rw [← ha]; simp [List.getElem?_eq_getElem hi]
    obtain ⟨⟨c0, c1⟩, _, _⟩ := boxOf2 HX.out.2.2 hB
    have hbc := hbx.cell
    have hp0 := (ptr_next hl (i := 0) (by simp)).2.1
    have hlpos : 0 < l.length := by omega
    rw [show (((hd, 0) :: l)[0 + 1]?) = some (l[0]'hlpos) by simp [List.getElem?_eq_getElem hlpos]] at hp0
    rw [Option.map_some, ptrA_some] at hp0
    have HL := Lib.hid hl
    have HLN := Lib.hid hln
    have HPZ := Lib.hid hperm
    have HPM := Lib.hid hpm
    have HAG := Lib.hid hag
    have HB := Lib.hid hB
    have HK := Lib.hid hK
    have hDl : D < X.heap.size := (Array.getElem?_eq_some_iff.1 hK).1
    have HLA := Lib.hid hla
    obtain ⟨f0, hf0⟩ : ∃ f, (l[0]'hlpos).1 = f := ⟨_, rfl⟩
    rw [hf0] at hp0
    have HF0 : Hid (∃ h : 0 < l.length, (l[0]'h).1 = f0) := Lib.hid ⟨hlpos, hf0⟩
    clear hl hln hsl hsl' ha hpm hperm hag hB hbx hK hla hf0 hlpos
    obtain ⟨w5, hrun, hrow, hgrow⟩ := run_make_full (P := Try.prog) (w := X) X.heap.size 37 3 i0 (.int .i64 0) 1 Try.underlying37 hi hz0 hz1 .i64 .i64 N (by rw [hz2]; omega) (by unfold maxLen; omega) (Nat.le_refl _)
    have hB5 : Below X.heap.size X w5 := (Below.refl _ _).grown hgrow (Nat.le_refl _) (fun k e => by cases e)
    have hrow0 : w5.ownsRow X.heap.size 3 1 (.slice (some ⟨X.heap.size, 0, none⟩) N N) N (intsV (outK N a 0)) := by
      have e : (madeCells (Value.cells (.int .i64 0)) (N * 1)).toList = intsV (outK N a 0) := by
        rw [show Value.cells (.int .i64 0) = #[.int .i64 0] from rfl, toList_madeCells_one, outK_zero]; simp [intsV]
      rw [← e]; exact hrow
    have hbc5 := (hB5.cell (p := ⟨A, 0, none⟩) (by show A < X.heap.size; omega)).trans hbc
    have hhl : hd < X.heap.size := by have := HHD.out; omega
    have hp5 := (hB5.cell (p := ⟨hd, 1, none⟩) hhl).trans hp0
    have HR0 := Lib.hid hrow0
    have HB5 := Lib.hid hB5
    clear hrow hgrow hrow0 hbc hp0 hB5
    gi_wp2_with fail
    gi_loopw [6, 7] (fun i sp Y => ∃ (q : Nat) (pa : Option Addr), q ≤ N ∧ i = .int .i64 (q : Int) ∧ sp = .pointer pa ∧ Hid (pa = ptrA ((l[q]?).map Prod.fst)) ∧ Y.ownsRow X.heap.size 3 1 (.slice (some ⟨X.heap.size, 0, none⟩) N N) N (intsV (outK N a q)) ∧ Below X.heap.size X Y)
      (fun i _ _ => N - (intOf i).toNat)
    case atStart => exact ⟨0, _, Nat.zero_le _, rfl, rfl, Lib.hid (by obtain ⟨h, e⟩ := HF0.out; rw [List.getElem?_eq_getElem h, Option.map_some, e, ptrA_some]), HR0.out, HB5.out⟩
    case round =>
      obtain ⟨q, pa, hq, rfl, rfl, HPA, hr, hBY⟩ := hrel
      by_cases hlt : q < N
      · have hql : q < l.length := by rw [HLN.out]; exact hlt
        have hpa := HPA.out
        rw [List.getElem?_eq_getElem hql, Option.map_some, ptrA_some] at hpa
        have hlk := HL.out.below hBY
        have hq1 : q + 1 < ((hd, 0) :: l).length := by simp; exact hql
        have hpn : wr.cell? ⟨(l[q]'hql).1, 0, none⟩ = some (.int .i64 ((l[q]'hql).2 : Int)) ∧ wr.cell? ⟨(l[q]'hql).1, 1, none⟩ = some (.pointer (ptrA ((l[q + 1]?).map Prod.fst))) ∧ wr.frozen? ⟨(l[q]'hql).1, 1, none⟩ = false := ptr_next hlk (i := q + 1) hq1
        rw [HAG.out q hql] at hpn
        obtain ⟨f, hf⟩ : ∃ f, (l[q]'hql).1 = f := ⟨_, rfl⟩
        rw [hf] at hpn hpa
        subst hpa
        obtain ⟨pn, hpne⟩ : ∃ pn, ptrA ((l[q + 1]?).map Prod.fst) = pn := ⟨_, rfl⟩
        rw [hpne] at hpn
        obtain ⟨e0, e1, _⟩ := hpn
        have hst := outK_step N a q
        have hx := at_lt ⟨hN1, hN2⟩ HPM.out hlt
        obtain ⟨x, hxe⟩ : ∃ x, a.getD q 0 = x := ⟨_, rfl⟩
        rw [hxe] at e0 hst hx
        have hfl : f < X.heap.size := by rw [← hf]; exact HL.out.lt (i := q + 1) hq1
        have hcx : ∃ y, wr.cell? ⟨X.heap.size, x, none⟩ = some y := by
          rw [hr.cellAt x (by omega)]
          exact ⟨_, List.getElem?_eq_getElem (by rw [intsV_len, outK_len]; exact hx)⟩
        obtain ⟨y, hcx⟩ := hcx
        have hfx := hr.frozenAt x
        have hne : ¬ f = X.heap.size := by omega
        have hne' : ¬ X.heap.size = f := by omega
        have HST := Lib.hid hst
        have HRR := Lib.hid hr
        have HBY := Lib.hid hBY
        have HPN := Lib.hid hpne
        clear hst hr hBY hxe hpne hlk hf hfl hq1
        gi_wp2
        go_roundw
        case rel =>
          have r1 := (HRR.out.stored x (.int .i64 (q : Int))).1
          rw [HST.out] at r1
          exact ⟨q + 1, pn, by omega, by go_num, rfl, Lib.hid HPN.out.symm, r1, HBY.out.setCell (p := ⟨X.heap.size, x, none⟩) (Nat.le_refl _) _⟩
        case measure => simp [intOf]; omega
      · obtain rfl : q = N := by omega
        have hpa := HPA.out
        rw [List.getElem?_eq_none (by rw [HLN.out]; exact Nat.le_refl _)] at hpa
        have hpa' : pa = none := hpa
        subst hpa'
        have HRR := Lib.hid hr
        have hK5 := (hBY.block D hDl).trans HK.out
        have HBB := Lib.hid (HX.out.1.trans ((HB.out.trans (hBY.mono HB.out.size)).mono HX.out.1.size))
        have hUs : w.heap.size ≤ X.heap.size := by have h1 := HB.out.size; have h2 := HX.out.1.size; omega
        have HK5 := Lib.hid hK5
        clear hr hBY hK5 hpa
        gi_wp2
        refine ⟨by simp, .inl ⟨_, _, rfl, run_takeDeferred HK5.out, ?_⟩⟩
        refine ⟨_, results_tmp rfl _ _ _, _, rfl, ?_, HBB.out.trans (belowK_b (w := w) (Nat.le_refl _) wr D _ _ (by have := HA1.out; omega) HK5.out rfl rfl)⟩
        have r1 := ownsRow_putObj HRR.out (.deferred none) HK5.out rfl
        rw [HPZ.out]
        unfold IntRow
        rw [outK_len]
        exact ownsRow_base r1 hUs

end Go.Proofs.Ytaaeiogdhmiaaaa

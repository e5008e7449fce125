/- What the laws' proofs stand on, part 7 of 6. -/
import Derived.Test.YtbbkpaledlbcmaaBa
import Derived.Test.YtbbkpaledlbcmaaBb
import Derived.Test.YtbbkpaledlbcmaaBc
import Derived.Test.YtbbkpaledlbcmaaBd
import Derived.Test.YtbbkpaledlbcmaaBe
import Derived.Test.YtbbkpaledlbcmaaBf

/- The model's GroupGrow. -/

namespace Go.Proofs.Ytbbkpaledlbcmaa
open Go.RowKit Go.Shelf

theorem grU_wrap {low : Int} (h : 1 ≤ low ∧ low ≤ 3) : IntKind.u8.wrap (65 + low) = ((invB (grC low)).toNat : Int) := by
  rcases low_cases ⟨h.1, by omega⟩ with rfl | rfl | rfl | rfl
  · decide
  · decide
  · decide
  · omega

section
variable {P : Program} {Q : Exit → Act → World → Prop} {S : World → Prop}
/-- A step of the walk. -/
def stepG (P : Program) (l : List Oper) (Q : Exit → Act → World → Prop) (S : World → Prop) (n fuel : Nat) (listed : Array Bool) (a : Act) (w : World) (i : Nat) : Prop :=
  i < n ∧ ∃ o, l[i]? = some o ∧ ∀ K' : Act → World → Prop, Shut (∀ a w, S w → (S w → walkG P l Q S n fuel (listed.setIfInBounds i true) a w) → K' a w) → if Region.wanted o (yielded l.toArray a.tmps) = true then Oper.wp P o a w K' Q else K' (a.put o.dst undef) w
def allG (p : Nat → Prop) : List Nat → Prop
  | [] => True
  | i :: R => p i ∧ allG p R
theorem allG_mem {p : Nat → Prop} : ∀ {R : List Nat}, allG p R → ∀ i ∈ R, p i
  | _ :: _, h, i, hi => by
    rcases List.mem_cons.1 hi with rfl | hi
    · exact h.1
    · exact allG_mem h.2 i hi
/-- Some may come up. -/
theorem walkG_some {l : List Oper} {n : Nat} {fuel : Nat} {listed : Array Bool} {a : Act} {w : World} (R : List Nat) (hr : Region.ready .any l.toArray listed = R) (h0 : R ≠ [])
    (h : allG (stepG P l Q S n fuel listed a w) R) : walkG P l Q S n (fuel + 1) listed a w := fun inv => by
  refine ⟨fun he => absurd (hr.symm.trans he) h0, fun j hj => ?_⟩
  have hj2 := hj
  rw [hr] at hj
  obtain ⟨hin, o, hi, h⟩ := allG_mem h j hj
  have hi' : l.toArray[j]? = some o := by simpa using hi
  exact wpOp_step hi' (fun K' hK => h K' (fun a w hS hW => hK a w ⟨fun _ => hS, hW hS (inv.set hj2 hin)⟩))
end

theorem blk_lt {w : World} {b : Nat} {o : Obj} (h : w.heap[b]? = some o) : b < w.heap.size := by
  rcases Nat.lt_or_ge b w.heap.size with hlt | hge
  · exact hlt
  · rw [Array.getElem?_eq_none hge] at h; cases h
theorem blk_below {w w' : World} {b : Nat} {o : Obj} (h : w.heap[b]? = some o) (hb : Below w.heap.size w w') : w'.heap[b]? = some o := (hb.block b (blk_lt h)).trans h
theorem blk_grown {w w' : World} {b g : Nat} {o : Obj} (h : w.heap[b]? = some o) (hg : w.grownBy w' (some g)) (hne : g ≠ b) : w'.heap[b]? = some o := (hg.block b (blk_lt h) (by intro e; first | exact hne (Option.some.inj e) | exact hne (Option.some.inj e).symm)).trans h
theorem own0_ne {w : World} {base g b : Nat} {e t : TypeId} {u : Value} {fr : Nat × Nat} (h : w.ownsRow base e 1 (.slice (some ⟨g, 0, none⟩) 0 0) 0 []) (hb : w.heap[b]? = some (.cells #[u] t fr)) : g ≠ b := fun e0 => by
  rcases h.2 with ⟨e1, _⟩ | ⟨g1, c1, cur, e1, _, h2, _, _, h4, _⟩
  · cases e1
  · cases e1
    rw [e0, hb] at h2
    cases h2
    simp at h4
theorem ownT_ne {w : World} {base g b n c : Nat} {e t : TypeId} {xs : List Value} {cs : Array Value} {fr : Nat × Nat} (h : w.ownsRow base e 1 (.slice (some ⟨g, 0, none⟩) n c) n xs) (hb : w.heap[b]? = some (.cells cs t fr)) (ht : e ≠ t) : g ≠ b := fun e0 => by
  rcases h.2 with ⟨e1, _⟩ | ⟨g1, c1, cur, e1, _, h2, _⟩
  · cases e1
  · cases e1
    rw [e0, hb] at h2
    cases h2
    exact ht rfl
theorem boxZ_of_block {w : World} {j : Nat} {t : TypeId} (e : w.heap[j]? = some (.cells #[.int .i64 0, .slice none 0 0] t (0, 0))) : BoxZ w j := by
  refine ⟨blk_lt e, ?_, ?_, ?_, ?_⟩
  · unfold World.cell?; rw [show (⟨j, 0, none⟩ : Addr).block = j from rfl, e]; rfl
  · unfold World.cell?; rw [show (⟨j, 1, none⟩ : Addr).block = j from rfl, e]; rfl
  · unfold World.frozen?; rw [show (⟨j, 0, none⟩ : Addr).block = j from rfl, e]; rfl
  · unfold World.frozen?; rw [show (⟨j, 1, none⟩ : Addr).block = j from rfl, e]; rfl
theorem own_set_ne {w : World} {base g n c b o : Nat} {e : TypeId} {xs : List Value} {x : Value} (h : w.ownsRow base e 1 (.slice (some ⟨g, 0, none⟩) n c) n xs) (hne : g ≠ b) : (w.setCell ⟨b, o, none⟩ x).ownsRow base e 1 (.slice (some ⟨g, 0, none⟩) n c) n xs := by
  refine ⟨h.1, ?_⟩
  rcases h.2 with ⟨e1, _⟩ | ⟨g1, c1, cur, e1, h1, h2, h3⟩
  · cases e1
  · refine .inr ⟨g1, c1, cur, e1, h1, ?_, h3⟩
    cases e1
    exact (Below.heap_setCell w ⟨b, o, none⟩ x g hne).trans h2
theorem gAtL {w V : World} {a L c j : Nat} {pl : Int} {pc : List ByteArray} (hB : Below w.heap.size w V) (hr : V.ownsRow w.heap.size 9 1 (.slice (some ⟨a, 0, none⟩) L c) L (strsV pc)) (hL : pc.length = L) (hsm : ∀ z ∈ pc, z.size ≤ maxLen)
    (hZ : V.heap[j]? = some (.cells #[.int .i64 0, .slice none 0 0] 64 (0, 0))) (hj : w.heap.size ≤ j) :
    GAt w ((V.setCell ⟨j, 0, none⟩ (.int .i64 pl)).setCell ⟨j, 1, none⟩ (.slice (some ⟨a, 0, none⟩) L c)) (.pointer (some ⟨j, 0, none⟩)) pl pc L := by
  have hne : a ≠ j := ownT_ne hr hZ (by decide)
  have hr2 := own_set_ne (own_set_ne hr hne (o := 0) (x := .int .i64 pl)) hne (o := 1) (x := .slice (some ⟨a, 0, none⟩) L c)
  exact ⟨j, a, c, rfl, (boxZ_of_block hZ).fill, hj, ⟨by unfold OwnS; rw [hL]; exact hr2, Lib.hid hsm⟩, hne, (hB.setCell (p := ⟨j, 0, none⟩) hj _).setCell (p := ⟨j, 1, none⟩) hj _⟩

set_option maxRecDepth 100000 in
set_option maxHeartbeats 4000000 in
theorem sGroupGrow_any (low : Int) (g cap n : Nat) (zs : List ByteArray) (s : ByteArray) (w : World) (hs : IsStrs w (some ⟨g, 0, none⟩) n zs) (hz : s.size ≤ maxLen) :
    Calls Try.prog 85 #[plV low (.slice (some ⟨g, 0, none⟩) n cap), .string s] w (ToldG w (grownB low zs s) ⟨low + 1, grownZ low zs s⟩) := by
  have hm := hs.max
  unfold maxLen at hm
  obtain ⟨W, hW⟩ : ∃ W, (w.alloc (.cells #[.int .i64 low, .slice (some ⟨g, 0, none⟩) n cap] 64)).alloc (.cells #[.int .i64 0, .slice none 0 0] 64) = W := ⟨_, rfl⟩
  obtain ⟨hbW, hsz2⟩ := boxes2Below hW
  have HC : Hid (∀ w1, Below W.heap.size W w1 → _) := Lib.hid fun w1 (hg : Below W.heap.size W w1) => boxes2 hW hg
  obtain ⟨⟨k0, k1⟩, _⟩ := boxes2 hW (Below.refl _ _)
  obtain ⟨bg, hbg⟩ : ∃ bg, groupB low zs = bg := ⟨_, rfl⟩
  have HGI := Lib.hid (sGroupIn_any low (some ⟨g, 0, none⟩) cap n zs bg W (hs.below hbW) hbg)
  have HGL : Hid (0 < n → g < w.heap.size) := Lib.hid fun h0 => by
    obtain ⟨x, e, hb, _⟩ := hs.at_.cells (by have := hs.len; omega)
    cases e
    exact hb
  have HS := Lib.hid (hs.below hbW)
  have HN := Lib.hid hs.len
  have HBG := Lib.hid hbg
  have HBW := Lib.hid hbW
  have HW := Lib.hid hW
  have HSZ := Lib.hid hsz2
  have HNO : Hid (∀ w1, Below W.heap.size W w1 → grownB low zs s = false → ToldG w (grownB low zs s) ⟨low + 1, grownZ low zs s⟩ (.returned (.tuple #[plV 0 (.slice none 0 0), .bool false])) ((w1.setCell ⟨w.heap.size + 1, 0, none⟩ (.int .i64 0)).setCell ⟨w.heap.size + 1, 1, none⟩ (.slice none 0 0))) := Lib.hid fun w1 h1 e =>
    ToldG.no e (((hbW.trans (h1.mono hbW.size)).setCell (p := ⟨w.heap.size + 1, 0, none⟩) (by show w.heap.size ≤ w.heap.size + 1; omega) _).setCell (p := ⟨w.heap.size + 1, 1, none⟩) (by show w.heap.size ≤ w.heap.size + 1; omega) _)
  rw [← hW] at k0 k1
  clear hs hbg hW hbW hsz2
  go_enter Try.func85, Try.ntmps85
  go_wp2_with fail
  rw [HW.out]
  refine HGI.out.mono ?_
  rintro e w1 ⟨rfl, hb1⟩
  have HB1 := Lib.hid hb1
  clear k0 k1
  obtain ⟨⟨k0, k1⟩, d0, d1, f0, f1⟩ := HC.out w1 hb1
  clear hb1
  cases bg with
  | false =>
    have HF : Hid (grownB low zs s = false) := Lib.hid (by unfold grownB; rw [HBG.out]; rfl)
    go_wp2
    refine bodyPost_ret (v := .tuple #[plV 0 (.slice none 0 0), .bool false]) ?_ rfl (HNO.out w1 HB1.out HF.out)
    simp [results, Try.results85, go_sem, d0, d1, plV]
  | true =>
    cases hw : wordB s.data.toList with
    | false =>
      have HWD := Lib.hid hw
      clear hw
      go_wp2_with fail
      refine (sWordIn_is s false _ hz HWD.out).mono ?_
      rintro e w2 ⟨rfl, hb2⟩
      have HB2 := Lib.hid (HB1.out.trans (hb2.mono HB1.out.size))
      clear hb2
      have HF : Hid (grownB low zs s = false) := Lib.hid (by unfold grownB; rw [HBG.out, HWD.out]; rfl)
      clear k0 k1 d0 d1 f0 f1
      obtain ⟨_, d0, d1, f0, f1⟩ := HC.out w2 HB2.out
      go_wp2
      refine bodyPost_ret (v := .tuple #[plV 0 (.slice none 0 0), .bool false]) ?_ rfl (HNO.out w2 HB2.out HF.out)
      simp [results, Try.results85, go_sem, d0, d1, plV]
    | true =>
      have HWD := Lib.hid hw
      clear hw
      have hs60 : s.size ≤ 60 := by have := ((wordB_iff _).1 HWD.out).1; simpa using this
      have HLE : Hid (letL s.data.toList = true) := Lib.hid (((wordB_iff _).1 HWD.out).2.1)
      go_wp2_with fail
      refine (sWordIn_is s true _ hz HWD.out).mono ?_
      rintro e w2 ⟨rfl, hb2⟩
      have HB2 := Lib.hid (HB1.out.trans (hb2.mono HB1.out.size))
      clear k0 k1 d0 d1 f0 f1
      obtain ⟨⟨k0, k1⟩, d0, d1, f0, f1⟩ := HC.out w2 HB2.out
      clear hb2
      cases ho : onlyB low s.data.toList with
      | false =>
        have HOB := Lib.hid ho
        clear ho
        go_wp2_with fail
        refine (l8Only_any s low false _ (by omega) HLE.out HOB.out).mono ?_
        rintro e w3 ⟨rfl, rfl⟩
        have HF : Hid (grownB low zs s = false) := Lib.hid (by unfold grownB; rw [HBG.out, HWD.out, HOB.out]; rfl)
        clear k0 k1 d0 d1 f0 f1
        obtain ⟨_, d0, d1, f0, f1⟩ := HC.out _ HB2.out
        go_wp2
        refine bodyPost_ret (v := .tuple #[plV 0 (.slice none 0 0), .bool false]) ?_ rfl (HNO.out _ HB2.out HF.out)
        simp [results, Try.results85, go_sem, d0, d1, plV]
      | true =>
        have HOB := Lib.hid ho
        clear ho
        have HRG := Lib.hid (groupB_iff.1 HBG.out)
        by_cases h4 : low = 4
        · subst h4
          go_wp2_with fail
          refine (l8Only_any s 4 true _ (by omega) HLE.out HOB.out).mono ?_
          rintro e w3 ⟨rfl, rfl⟩
          have HF : Hid (grownB 4 zs s = false) := Lib.hid (by unfold grownB; rw [HBG.out, HWD.out, HOB.out]; rfl)
          clear k0 k1 d0 d1 f0 f1
          obtain ⟨_, d0, d1, f0, f1⟩ := HC.out _ HB2.out
          go_wp2
          refine bodyPost_ret (v := .tuple #[plV 0 (.slice none 0 0), .bool false]) ?_ rfl (HNO.out _ HB2.out HF.out)
          simp [results, Try.results85, go_sem, d0, d1, plV]
        have h4b : (low == (4 : Int)) = false := by rw [beq_eq_false_iff_ne]; exact h4
        have h4d : decide (low = (4 : Int)) = false := decide_eq_false h4
        have hlow : 1 ≤ low ∧ low ≤ 3 := by have := HRG.out.1; omega
        obtain ⟨c, hc⟩ : ∃ c, invB (grC low) = c := ⟨_, rfl⟩
        obtain ⟨F, hF⟩ : ∃ F : Int, 65 + low = F := ⟨_, rfl⟩
        obtain ⟨L1, hL1⟩ : ∃ L1 : Int, low + 1 = L1 := ⟨_, rfl⟩
        have hwF : IntKind.i64.wrap (65 + low) = F := by rw [IntWalk.i64_in _ (by omega)]; exact hF
        have hwL : IntKind.i64.wrap (low + 1) = L1 := by rw [IntWalk.i64_in _ (by omega)]; exact hL1
        have hwC : IntKind.u8.wrap F = (c.toNat : Int) := by rw [← hF, ← hc]; exact grU_wrap hlow
        obtain ⟨tl, htl⟩ : ∃ tl, bstr [c] = tl := ⟨_, rfl⟩
        have hts : tl.size = 1 := by rw [← htl, bstr_size]; rfl
        obtain ⟨x, hx⟩ : ∃ x, s ++ tl = x := ⟨_, rfl⟩
        have hxg : grS low s = x := by rw [← hx, ← htl, ← hc, ← bstr_of (s ++ bstr [invB (grC low)]), appG_toList]; rfl
        have hxs : x.size ≤ 61 := by rw [← hx, appG_size, hts]; omega
        have hconv : ∀ V : World, (convert 22 9 (.slice (some ⟨V.heap.size, 0, none⟩) 1 1)).run Try.prog (V.alloc (.cells #[.int .u8 (c.toNat : Int)] 5)) = .ok (.string tl) (V.alloc (.cells #[.int .u8 (c.toNat : Int)] 5)) := fun V => by
          rw [← htl]
          exact run_convert_bytes_back (P := Try.prog) _ 22 9 5 ⟨V.heap.size, 0, none⟩ 1 [c] Try.underlying22 Try.underlying5 Try.underlying9 (fun j hj => by
            have hj0 : j = 0 := by simpa using hj
            subst hj0
            exact cell_one_new _ _ _ 0 _ rfl)
        have hnot : ¬ 9223372036854775807 < s.size + tl.size := by omega
        have HXG := Lib.hid hxg
        have HL1 := Lib.hid hL1
        have HLOW := Lib.hid hlow
        clear hc hF hL1 htl hlow hxg
        go_wp2_with fail
        refine (l8Only_any s low true _ (by omega) HLE.out HOB.out).mono ?_
        rintro e w3 ⟨rfl, rfl⟩
        obtain ⟨V2, hV2⟩ : ∃ X, w2.alloc (.cells #[.int .u8 (c.toNat : Int)] 5) = X := ⟨_, rfl⟩
        have HV2 : Hid (Below w2.heap.size w2 V2) := Lib.hid (by rw [← hV2]; exact (Below.refl _ _).alloc (Nat.le_refl _) _)
        have hconv2 := hconv w2
        rw [hV2] at hconv2
        clear hconv
        have HB3 := Lib.hid (HB2.out.trans (HV2.out.mono HB2.out.size))
        clear d0 d1 f0 f1
        have HCS : Hid (∀ V, Below V2.heap.size V2 V → V.cell? ⟨w.heap.size, 0, none⟩ = some (.int .i64 low) ∧ V.cell? ⟨w.heap.size, 1, none⟩ = some (.slice (some ⟨g, 0, none⟩) n cap)) := Lib.hid fun V hV => (HC.out V (HB3.out.trans (hV.mono HB3.out.size))).1
        obtain ⟨p0, p1⟩ := HCS.out _ (Below.refl V2.heap.size V2).drew
        have hmx : Try.prog.follows .mixedOrders = true := by kernel_rfl
        obtain ⟨i0, hi0, hz0, hz1, hz2⟩ := info_parts infoStr
        have hn4 : n ≤ 4 := by have h1 := HRG.out.2.1; have h2 := HN.out; omega
        have HNEWS : Hid (∀ V, Below V2.heap.size V2 V → ∀ j u, (strsV zs)[j]? = some u → V.cell? ((⟨g, 0, none⟩ : Addr).add j) = some u) := Lib.hid fun V hV j u hu => by
          have hj : j < zs.length := by have := (List.getElem?_eq_some_iff.1 hu).1; rwa [strsV_len] at this
          obtain ⟨y, e, _, hcy⟩ := (HS.out.below (HB3.out.trans (hV.mono HB3.out.size))).at_.cells (by omega)
          cases e
          rw [hcy j hj]
          simpa [strsV, hj] using hu
        have HONE : Hid (∀ u ∈ strsV zs, u.oneCell' = true) := Lib.hid fun u hu => by unfold strsV at hu; obtain ⟨z, _, rfl⟩ := List.mem_map.1 hu; rfl
        have HSV : Hid (strsV (zs ++ [x]) = strsV zs ++ [.string x]) := Lib.hid (by simp [strsV])
        have HZL : Hid ((zs ++ [x]).length = n + 1) := Lib.hid (by rw [List.length_append, HN.out]; rfl)
        have HSMZ : Hid (∀ z ∈ zs ++ [x], z.size ≤ maxLen) := Lib.hid fun z hz => by
          rcases List.mem_append.1 hz with h | h
          · exact HS.out.at_.small z h
          · obtain rfl := List.mem_singleton.1 h; unfold maxLen; omega
        have hZ : grownZ low zs s = zs ++ [x] := by unfold grownZ; rw [HXG.out]
        obtain ⟨b, hb⟩ : ∃ b, groupB L1 (zs ++ [x]) = b := ⟨_, rfl⟩
        have HBE : Hid (grownB low zs s = b) := Lib.hid (by unfold grownB; rw [HBG.out, HWD.out, HOB.out, hZ, HL1.out, hb]; rfl)
        have HZ := Lib.hid hZ
        have HB := Lib.hid hb
        have BV_U : Hid (Below V2.heap.size V2 V2.drew) := Lib.hid (Below.refl _ _).drew
        clear hb hZ
        go_upto_region 4 with fail
        go_cut [7] (fun s wx => GAt V2 wx s L1 (zs ++ [x]) (n + 1))
        case first =>
          refine wp_region_G 12 (fun w' : World => w'.cell? ⟨w.heap.size, 0, none⟩ = some (.int .i64 low) ∧ w'.cell? ⟨w.heap.size, 1, none⟩ = some (.slice (some ⟨g, 0, none⟩) n cap)) hmx ⟨p0, p1⟩ ?hW0
          intro hHeld
          obtain ⟨U, hU⟩ : ∃ X, V2.drew = X := ⟨_, rfl⟩
          rw [hU] at hHeld BV_U ⊢
          clear hU p0 p1 k0 k1 hV2
          simp only [List.length_cons, List.length_nil, List.replicate]
          refine walkG_take (i := 0) (v := ?v0_1) rfl (by kernel_rfl) (by kernel_rfl) (by kernel_rfl) (fun _ _ _ h => h) (Or.inl ⟨by rfl, ?hy0_1⟩) (by assumption) ?rest0_1
          case hy0_1 =>
            intro w hSw
            (try dsimp only at hSw)
            go_simp
            (try with_reducible rfl)
          try simp only [Act.put, List.setIfInBounds_toArray, List.set_cons_zero, List.set_cons_succ]
          refine walkG_take (i := 1) (v := ?v1_2) rfl (by kernel_rfl) (by kernel_rfl) (by kernel_rfl) (fun _ _ _ h => h) (Or.inl ⟨by rfl, ?hy1_2⟩) (by assumption) ?rest1_2
          case hy1_2 =>
            intro w hSw
            (try dsimp only at hSw)
            go_simp
            (try with_reducible rfl)
          try simp only [Act.put, List.setIfInBounds_toArray, List.set_cons_zero, List.set_cons_succ]
          refine walkG_take (i := 2) (v := ?v2_3) rfl (by kernel_rfl) (by kernel_rfl) (by kernel_rfl) (fun _ _ _ h => h) (Or.inl ⟨by rfl, ?hy2_3⟩) (by assumption) ?rest2_3
          case hy2_3 =>
            intro w hSw
            (try dsimp only at hSw)
            go_simp
            (try with_reducible rfl)
          try simp only [Act.put, List.setIfInBounds_toArray, List.set_cons_zero, List.set_cons_succ]
          refine walkG_take (i := 4) (v := ?v4_4) rfl (by kernel_rfl) (by kernel_rfl) (by kernel_rfl) (fun _ _ _ h => h) (Or.inl ⟨by rfl, ?hy4_4⟩) (by assumption) ?rest4_4
          case hy4_4 =>
            intro w hSw
            (try dsimp only at hSw)
            go_simp
            (try with_reducible rfl)
          try simp only [Act.put, List.setIfInBounds_toArray, List.set_cons_zero, List.set_cons_succ]
          refine walkG_take (i := 5) (v := ?v5_5) rfl (by kernel_rfl) (by kernel_rfl) (by kernel_rfl) (fun _ _ _ h => h) (Or.inl ⟨by rfl, ?hy5_5⟩) (by assumption) ?rest5_5
          case hy5_5 =>
            intro w hSw
            (try dsimp only at hSw)
            go_simp
            (try with_reducible rfl)
          try simp only [Act.put, List.setIfInBounds_toArray, List.set_cons_zero, List.set_cons_succ]
          refine walkG_take (i := 7) (v := ?v7_6) rfl (by kernel_rfl) (by kernel_rfl) (by kernel_rfl) (fun _ _ _ h => h) (Or.inl ⟨by rfl, ?hy7_6⟩) (by assumption) ?rest7_6
          case hy7_6 =>
            intro w hSw
            (try dsimp only at hSw)
            go_simp
            (try with_reducible rfl)
          try simp only [Act.put, List.setIfInBounds_toArray, List.set_cons_zero, List.set_cons_succ]
          refine walkG_some [3, 8, 11] (by kernel_rfl) (by decide) ⟨?_, ?_, ?_, trivial⟩
          · refine ⟨by decide, _, rfl, fun K hK => ?_⟩
            go_simp
            have hmade := World.ownsRow_made (e := 9) (size := 1) U #[] 0 BV_U.out.size (Nat.zero_le _) rfl
            obtain ⟨b_u7, hb_u7⟩ : ∃ b, U.heap.size = b := ⟨_, rfl⟩
            obtain ⟨u7, hw_u7⟩ : ∃ X, U.alloc (.cells #[] 9) = X := ⟨_, rfl⟩
            have hbk : Below U.heap.size U u7 := by rw [← hw_u7]; exact (Below.refl _ _).alloc (Nat.le_refl _) _
            have BV_u7 := Lib.hid (BV_U.out.trans (hbk.mono BV_U.out.size))
            rw [hw_u7, hb_u7] at hmade
            have HO_u7 := Lib.hid hmade
            rw [hb_u7, hw_u7]
            clear hw_u7 hb_u7 hbk hmade
            refine hK.out _ _ (HCS.out _ BV_u7.out) (fun hHeld_u7 => ?_)
            clear hK K
            try simp only [List.setIfInBounds_toArray, List.set_cons_zero, List.set_cons_succ]
            refine walkG_some [6, 8, 11] (by kernel_rfl) (by decide) ⟨?_, ?_, ?_, trivial⟩
            · refine ⟨by decide, _, rfl, fun K hK => ?_⟩
              refine Eq.mpr (if_pos (by kernel_rfl)) ?_
              refine wp_append_own _ _ _ 59 (by rfl) V2.heap.size 9 i0 (.string ByteArray.empty) 1 16 Try.underlying59 hi0 hz0 hz1 hz2 rfl (by decide) (.slice (some ⟨b_u7, 0, none⟩) 0 0) 0 [] (by rfl) HO_u7.out ⟨g, 0, none⟩ n cap (strsV zs) (by rfl) (by rw [strsV_len, HN.out, Nat.mul_one]) (HNEWS.out _ BV_u7.out) HONE.out (by unfold maxLen; omega) (by omega) BV_u7.out.size ?_
              intro v6 u8 hown6 hgr6 hnil6
              rw [Nat.zero_add, List.nil_append] at hown6
              obtain ⟨g_u8, c_u8, rfl⟩ : ∃ g1 c1, v6 = .slice (some ⟨g1, 0, none⟩) n c1 := by
                rcases hown6.2 with ⟨rfl, _⟩ | ⟨g1, c1, _, rfl, _⟩
                · have h := (hnil6.1 rfl).1
                  cases h
                · exact ⟨g1, c1, rfl⟩
              have BV_u8 : Hid (Below V2.heap.size V2 u8) := Lib.hid (BV_u7.out.grown hgr6 BV_u7.out.size fun j e => by cases e; exact own_ge HO_u7.out b_u7 rfl)
              have HO_u8 := Lib.hid hown6
              clear hown6 hgr6 hnil6
              refine hK.out _ _ (HCS.out _ BV_u8.out) (fun hHeld_u8 => ?_)
              clear hK K
              try simp only [List.setIfInBounds_toArray, List.set_cons_zero, List.set_cons_succ]
              refine walkG_some [8, 11] (by kernel_rfl) (by decide) ⟨?_, ?_, trivial⟩
              · refine ⟨by decide, _, rfl, fun K hK => ?_⟩
                go_simp
                have hnew := World.alloc_heap_new u8 (.cells #[.string x] 9)
                obtain ⟨b_u9, hb_u9⟩ : ∃ b, u8.heap.size = b := ⟨_, rfl⟩
                obtain ⟨u9, hw_u9⟩ : ∃ X, u8.alloc (.cells #[.string x] 9) = X := ⟨_, rfl⟩
                have hbk : Below u8.heap.size u8 u9 := by rw [← hw_u9]; exact (Below.refl _ _).alloc (Nat.le_refl _) _
                have hbl : V2.heap.size ≤ b_u9 := by rw [← hb_u9]; exact BV_u8.out.size
                have BV_u9 := Lib.hid (BV_u8.out.trans (hbk.mono BV_u8.out.size))
                rw [hb_u9, hw_u9] at hnew
                rw [hb_u9, hw_u9]
                have HO_u9 := Lib.hid (ownsRow_past HO_u8.out hbk)
                have HE_u9 := Lib.hid hnew
                clear hbl
                clear hw_u9 hb_u9 hbk hnew
                refine hK.out _ _ (HCS.out _ BV_u9.out) (fun hHeld_u9 => ?_)
                clear hK K
                try simp only [List.setIfInBounds_toArray, List.set_cons_zero, List.set_cons_succ]
                refine walkG_some [9, 11] (by kernel_rfl) (by decide) ⟨?_, ?_, trivial⟩
                · refine ⟨by decide, _, rfl, fun K hK => ?_⟩
                  refine Eq.mpr (if_pos (by kernel_rfl)) ?_
                  refine wp_append_own _ _ _ 59 (by rfl) V2.heap.size 9 i0 (.string ByteArray.empty) 1 16 Try.underlying59 hi0 hz0 hz1 hz2 rfl (by decide) (.slice (some ⟨g_u8, 0, none⟩) n c_u8) n (strsV zs) (by rfl) HO_u9.out ⟨b_u9, 0, none⟩ 1 1 [.string x] (by rfl) rfl (World.news_of_block (cs := #[.string x]) (t := 9) (fr := (0, 0)) HE_u9.out) (fun u hu => by simp at hu; subst hu; rfl) (by unfold maxLen; omega) (by omega) BV_u9.out.size ?_
                  intro v6 u10 hown6 hgr6 _
                  obtain ⟨g_u10, c_u10, rfl⟩ := ownsRow_succ hown6
                  have BV_u10 : Hid (Below V2.heap.size V2 u10) := Lib.hid (BV_u9.out.grown hgr6 BV_u9.out.size fun j e => by cases e; exact own_ge HO_u9.out g_u8 rfl)
                  have HO_u10 := Lib.hid hown6
                  clear hown6 hgr6
                  refine hK.out _ _ (HCS.out _ BV_u10.out) (fun hHeld_u10 => ?_)
                  clear hK K
                  try simp only [List.setIfInBounds_toArray, List.set_cons_zero, List.set_cons_succ]
                  refine walkG_take (i := 10) (v := ?v10_11) rfl (by kernel_rfl) (by kernel_rfl) (by kernel_rfl) (fun _ _ _ h => h) (Or.inl ⟨by rfl, ?hy10_11⟩) (by assumption) ?rest10_11
                  case hy10_11 =>
                    intro w hSw
                    (try dsimp only at hSw)
                    go_simp
                    (try with_reducible rfl)
                  try simp only [Act.put, List.setIfInBounds_toArray, List.set_cons_zero, List.set_cons_succ]
                  refine walkG_some [11] (by kernel_rfl) (by decide) ⟨?_, trivial⟩
                  · refine ⟨by decide, _, rfl, fun K hK => ?_⟩
                    go_simp
                    have hnew := World.alloc_heap_new u10 (.cells #[.int .i64 0, .slice none 0 0] 64)
                    obtain ⟨b_u12, hb_u12⟩ : ∃ b, u10.heap.size = b := ⟨_, rfl⟩
                    obtain ⟨u12, hw_u12⟩ : ∃ X, u10.alloc (.cells #[.int .i64 0, .slice none 0 0] 64) = X := ⟨_, rfl⟩
                    have hbk : Below u10.heap.size u10 u12 := by rw [← hw_u12]; exact (Below.refl _ _).alloc (Nat.le_refl _) _
                    have hbl : V2.heap.size ≤ b_u12 := by rw [← hb_u12]; exact BV_u10.out.size
                    have BV_u12 := Lib.hid (BV_u10.out.trans (hbk.mono BV_u10.out.size))
                    rw [hb_u12, hw_u12] at hnew
                    rw [hb_u12, hw_u12]
                    have HO_u12 := Lib.hid (ownsRow_past HO_u10.out hbk)
                    have HA_u12 := Lib.hid hnew
                    have hb11 := hbl
                    clear hw_u12 hb_u12 hbk hnew
                    refine hK.out _ _ (HCS.out _ BV_u12.out) (fun hHeld_u12 => ?_)
                    clear hK K
                    try simp only [List.setIfInBounds_toArray, List.set_cons_zero, List.set_cons_succ]
                    obtain ⟨_, y0, y1, y2, y3⟩ := boxZ_of_block HA_u12.out
                    refine walkG_last rfl (by kernel_rfl) (by kernel_rfl) (fun K hK => ?_) _
                    go_simp
                    refine hK.out _ _ ?_
                    clear hK K
                    go_wp2_with fail
                    go_meet
                    exact gAtL BV_u12.out (by rw [HSV.out]; exact HO_u12.out) HZL.out HSMZ.out HA_u12.out hb11
                · refine ⟨by decide, _, rfl, fun K hK => ?_⟩
                  go_simp
                  have hnew := World.alloc_heap_new u9 (.cells #[.int .i64 0, .slice none 0 0] 64)
                  obtain ⟨b_u13, hb_u13⟩ : ∃ b, u9.heap.size = b := ⟨_, rfl⟩
                  obtain ⟨u13, hw_u13⟩ : ∃ X, u9.alloc (.cells #[.int .i64 0, .slice none 0 0] 64) = X := ⟨_, rfl⟩
                  have hbk : Below u9.heap.size u9 u13 := by rw [← hw_u13]; exact (Below.refl _ _).alloc (Nat.le_refl _) _
                  have hbl : V2.heap.size ≤ b_u13 := by rw [← hb_u13]; exact BV_u9.out.size
                  have BV_u13 := Lib.hid (BV_u9.out.trans (hbk.mono BV_u9.out.size))
                  rw [hb_u13, hw_u13] at hnew
                  rw [hb_u13, hw_u13]
                  have HO_u13 := Lib.hid (ownsRow_past HO_u9.out hbk)
                  have HE_u13 := Lib.hid (blk_below HE_u9.out hbk)
                  have HA_u13 := Lib.hid hnew
                  have hb11 := hbl
                  clear hw_u13 hb_u13 hbk hnew
                  refine hK.out _ _ (HCS.out _ BV_u13.out) (fun hHeld_u13 => ?_)
                  clear hK K
                  try simp only [List.setIfInBounds_toArray, List.set_cons_zero, List.set_cons_succ]
                  refine walkG_some [9] (by kernel_rfl) (by decide) ⟨?_, trivial⟩
                  · refine ⟨by decide, _, rfl, fun K hK => ?_⟩
                    refine Eq.mpr (if_pos (by kernel_rfl)) ?_
                    refine wp_append_own _ _ _ 59 (by rfl) V2.heap.size 9 i0 (.string ByteArray.empty) 1 16 Try.underlying59 hi0 hz0 hz1 hz2 rfl (by decide) (.slice (some ⟨g_u8, 0, none⟩) n c_u8) n (strsV zs) (by rfl) HO_u13.out ⟨b_u9, 0, none⟩ 1 1 [.string x] (by rfl) rfl (World.news_of_block (cs := #[.string x]) (t := 9) (fr := (0, 0)) HE_u13.out) (fun u hu => by simp at hu; subst hu; rfl) (by unfold maxLen; omega) (by omega) BV_u13.out.size ?_
                    intro v6 u14 hown6 hgr6 _
                    obtain ⟨g_u14, c_u14, rfl⟩ := ownsRow_succ hown6
                    have BV_u14 : Hid (Below V2.heap.size V2 u14) := Lib.hid (BV_u13.out.grown hgr6 BV_u13.out.size fun j e => by cases e; exact own_ge HO_u13.out g_u8 rfl)
                    have HO_u14 := Lib.hid hown6
                    have HA_u14 := Lib.hid (blk_grown HA_u13.out hgr6 (ownT_ne HO_u13.out HA_u13.out (by decide)))
                    clear hown6 hgr6
                    refine hK.out _ _ (HCS.out _ BV_u14.out) (fun hHeld_u14 => ?_)
                    clear hK K
                    try simp only [List.setIfInBounds_toArray, List.set_cons_zero, List.set_cons_succ]
                    refine walkG_take (i := 10) (v := ?v10_15) rfl (by kernel_rfl) (by kernel_rfl) (by kernel_rfl) (fun _ _ _ h => h) (Or.inl ⟨by rfl, ?hy10_15⟩) (by assumption) ?rest10_15
                    case hy10_15 =>
                      intro w hSw
                      (try dsimp only at hSw)
                      go_simp
                      (try with_reducible rfl)
                    try simp only [Act.put, List.setIfInBounds_toArray, List.set_cons_zero, List.set_cons_succ]
                    obtain ⟨_, y0, y1, y2, y3⟩ := boxZ_of_block HA_u14.out
                    refine walkG_last rfl (by kernel_rfl) (by kernel_rfl) (fun K hK => ?_) _
                    go_simp
                    refine hK.out _ _ ?_
                    clear hK K
                    go_wp2_with fail
                    go_meet
                    exact gAtL BV_u14.out (by rw [HSV.out]; exact HO_u14.out) HZL.out HSMZ.out HA_u14.out hb11
              · refine ⟨by decide, _, rfl, fun K hK => ?_⟩
                go_simp
                have hnew := World.alloc_heap_new u8 (.cells #[.int .i64 0, .slice none 0 0] 64)
                obtain ⟨b_u16, hb_u16⟩ : ∃ b, u8.heap.size = b := ⟨_, rfl⟩
                obtain ⟨u16, hw_u16⟩ : ∃ X, u8.alloc (.cells #[.int .i64 0, .slice none 0 0] 64) = X := ⟨_, rfl⟩
                have hbk : Below u8.heap.size u8 u16 := by rw [← hw_u16]; exact (Below.refl _ _).alloc (Nat.le_refl _) _
                have hbl : V2.heap.size ≤ b_u16 := by rw [← hb_u16]; exact BV_u8.out.size
                have BV_u16 := Lib.hid (BV_u8.out.trans (hbk.mono BV_u8.out.size))
                rw [hb_u16, hw_u16] at hnew
                rw [hb_u16, hw_u16]
                have HO_u16 := Lib.hid (ownsRow_past HO_u8.out hbk)
                have HA_u16 := Lib.hid hnew
                have hb11 := hbl
                clear hw_u16 hb_u16 hbk hnew
                refine hK.out _ _ (HCS.out _ BV_u16.out) (fun hHeld_u16 => ?_)
                clear hK K
                try simp only [List.setIfInBounds_toArray, List.set_cons_zero, List.set_cons_succ]
                refine walkG_some [8] (by kernel_rfl) (by decide) ⟨?_, trivial⟩
                · refine ⟨by decide, _, rfl, fun K hK => ?_⟩
                  go_simp
                  have hnew := World.alloc_heap_new u16 (.cells #[.string x] 9)
                  obtain ⟨b_u17, hb_u17⟩ : ∃ b, u16.heap.size = b := ⟨_, rfl⟩
                  obtain ⟨u17, hw_u17⟩ : ∃ X, u16.alloc (.cells #[.string x] 9) = X := ⟨_, rfl⟩
                  have hbk : Below u16.heap.size u16 u17 := by rw [← hw_u17]; exact (Below.refl _ _).alloc (Nat.le_refl _) _
                  have hbl : V2.heap.size ≤ b_u17 := by rw [← hb_u17]; exact BV_u16.out.size
                  have BV_u17 := Lib.hid (BV_u16.out.trans (hbk.mono BV_u16.out.size))
                  rw [hb_u17, hw_u17] at hnew
                  rw [hb_u17, hw_u17]
                  have HO_u17 := Lib.hid (ownsRow_past HO_u16.out hbk)
                  have HA_u17 := Lib.hid (blk_below HA_u16.out hbk)
                  have HE_u17 := Lib.hid hnew
                  clear hbl
                  clear hw_u17 hb_u17 hbk hnew
                  refine hK.out _ _ (HCS.out _ BV_u17.out) (fun hHeld_u17 => ?_)
                  clear hK K
                  try simp only [List.setIfInBounds_toArray, List.set_cons_zero, List.set_cons_succ]
                  refine walkG_some [9] (by kernel_rfl) (by decide) ⟨?_, trivial⟩
                  · refine ⟨by decide, _, rfl, fun K hK => ?_⟩
                    refine Eq.mpr (if_pos (by kernel_rfl)) ?_
                    refine wp_append_own _ _ _ 59 (by rfl) V2.heap.size 9 i0 (.string ByteArray.empty) 1 16 Try.underlying59 hi0 hz0 hz1 hz2 rfl (by decide) (.slice (some ⟨g_u8, 0, none⟩) n c_u8) n (strsV zs) (by rfl) HO_u17.out ⟨b_u17, 0, none⟩ 1 1 [.string x] (by rfl) rfl (World.news_of_block (cs := #[.string x]) (t := 9) (fr := (0, 0)) HE_u17.out) (fun u hu => by simp at hu; subst hu; rfl) (by unfold maxLen; omega) (by omega) BV_u17.out.size ?_
                    intro v6 u18 hown6 hgr6 _
                    obtain ⟨g_u18, c_u18, rfl⟩ := ownsRow_succ hown6
                    have BV_u18 : Hid (Below V2.heap.size V2 u18) := Lib.hid (BV_u17.out.grown hgr6 BV_u17.out.size fun j e => by cases e; exact own_ge HO_u17.out g_u8 rfl)
                    have HO_u18 := Lib.hid hown6
                    have HA_u18 := Lib.hid (blk_grown HA_u17.out hgr6 (ownT_ne HO_u17.out HA_u17.out (by decide)))
                    clear hown6 hgr6
                    refine hK.out _ _ (HCS.out _ BV_u18.out) (fun hHeld_u18 => ?_)
                    clear hK K
                    try simp only [List.setIfInBounds_toArray, List.set_cons_zero, List.set_cons_succ]
                    refine walkG_take (i := 10) (v := ?v10_19) rfl (by kernel_rfl) (by kernel_rfl) (by kernel_rfl) (fun _ _ _ h => h) (Or.inl ⟨by rfl, ?hy10_19⟩) (by assumption) ?rest10_19
                    case hy10_19 =>
                      intro w hSw
                      (try dsimp only at hSw)
                      go_simp
                      (try with_reducible rfl)
                    try simp only [Act.put, List.setIfInBounds_toArray, List.set_cons_zero, List.set_cons_succ]
                    obtain ⟨_, y0, y1, y2, y3⟩ := boxZ_of_block HA_u18.out
                    refine walkG_last rfl (by kernel_rfl) (by kernel_rfl) (fun K hK => ?_) _
                    go_simp
                    refine hK.out _ _ ?_
                    clear hK K
                    go_wp2_with fail
                    go_meet
                    exact gAtL BV_u18.out (by rw [HSV.out]; exact HO_u18.out) HZL.out HSMZ.out HA_u18.out hb11
            · refine ⟨by decide, _, rfl, fun K hK => ?_⟩
              go_simp
              have hnew := World.alloc_heap_new u7 (.cells #[.string x] 9)
              obtain ⟨b_u20, hb_u20⟩ : ∃ b, u7.heap.size = b := ⟨_, rfl⟩
              obtain ⟨u20, hw_u20⟩ : ∃ X, u7.alloc (.cells #[.string x] 9) = X := ⟨_, rfl⟩
              have hbk : Below u7.heap.size u7 u20 := by rw [← hw_u20]; exact (Below.refl _ _).alloc (Nat.le_refl _) _
              have hbl : V2.heap.size ≤ b_u20 := by rw [← hb_u20]; exact BV_u7.out.size
              have BV_u20 := Lib.hid (BV_u7.out.trans (hbk.mono BV_u7.out.size))
              rw [hb_u20, hw_u20] at hnew
              rw [hb_u20, hw_u20]
              have HO_u20 := Lib.hid (ownsRow_past HO_u7.out hbk)
              have HE_u20 := Lib.hid hnew
              clear hbl
              clear hw_u20 hb_u20 hbk hnew
              refine hK.out _ _ (HCS.out _ BV_u20.out) (fun hHeld_u20 => ?_)
              clear hK K
              try simp only [List.setIfInBounds_toArray, List.set_cons_zero, List.set_cons_succ]
              refine walkG_some [6, 11] (by kernel_rfl) (by decide) ⟨?_, ?_, trivial⟩
              · refine ⟨by decide, _, rfl, fun K hK => ?_⟩
                refine Eq.mpr (if_pos (by kernel_rfl)) ?_
                refine wp_append_own _ _ _ 59 (by rfl) V2.heap.size 9 i0 (.string ByteArray.empty) 1 16 Try.underlying59 hi0 hz0 hz1 hz2 rfl (by decide) (.slice (some ⟨b_u7, 0, none⟩) 0 0) 0 [] (by rfl) HO_u20.out ⟨g, 0, none⟩ n cap (strsV zs) (by rfl) (by rw [strsV_len, HN.out, Nat.mul_one]) (HNEWS.out _ BV_u20.out) HONE.out (by unfold maxLen; omega) (by omega) BV_u20.out.size ?_
                intro v6 u21 hown6 hgr6 hnil6
                rw [Nat.zero_add, List.nil_append] at hown6
                obtain ⟨g_u21, c_u21, rfl⟩ : ∃ g1 c1, v6 = .slice (some ⟨g1, 0, none⟩) n c1 := by
                  rcases hown6.2 with ⟨rfl, _⟩ | ⟨g1, c1, _, rfl, _⟩
                  · have h := (hnil6.1 rfl).1
                    cases h
                  · exact ⟨g1, c1, rfl⟩
                have BV_u21 : Hid (Below V2.heap.size V2 u21) := Lib.hid (BV_u20.out.grown hgr6 BV_u20.out.size fun j e => by cases e; exact own_ge HO_u20.out b_u7 rfl)
                have HO_u21 := Lib.hid hown6
                have HE_u21 := Lib.hid (blk_grown HE_u20.out hgr6 (own0_ne HO_u20.out HE_u20.out))
                clear hown6 hgr6 hnil6
                refine hK.out _ _ (HCS.out _ BV_u21.out) (fun hHeld_u21 => ?_)
                clear hK K
                try simp only [List.setIfInBounds_toArray, List.set_cons_zero, List.set_cons_succ]
                refine walkG_some [9, 11] (by kernel_rfl) (by decide) ⟨?_, ?_, trivial⟩
                · refine ⟨by decide, _, rfl, fun K hK => ?_⟩
                  refine Eq.mpr (if_pos (by kernel_rfl)) ?_
                  refine wp_append_own _ _ _ 59 (by rfl) V2.heap.size 9 i0 (.string ByteArray.empty) 1 16 Try.underlying59 hi0 hz0 hz1 hz2 rfl (by decide) (.slice (some ⟨g_u21, 0, none⟩) n c_u21) n (strsV zs) (by rfl) HO_u21.out ⟨b_u20, 0, none⟩ 1 1 [.string x] (by rfl) rfl (World.news_of_block (cs := #[.string x]) (t := 9) (fr := (0, 0)) HE_u21.out) (fun u hu => by simp at hu; subst hu; rfl) (by unfold maxLen; omega) (by omega) BV_u21.out.size ?_
                  intro v6 u22 hown6 hgr6 _
                  obtain ⟨g_u22, c_u22, rfl⟩ := ownsRow_succ hown6
                  have BV_u22 : Hid (Below V2.heap.size V2 u22) := Lib.hid (BV_u21.out.grown hgr6 BV_u21.out.size fun j e => by cases e; exact own_ge HO_u21.out g_u21 rfl)
                  have HO_u22 := Lib.hid hown6
                  clear hown6 hgr6
                  refine hK.out _ _ (HCS.out _ BV_u22.out) (fun hHeld_u22 => ?_)
                  clear hK K
                  try simp only [List.setIfInBounds_toArray, List.set_cons_zero, List.set_cons_succ]
                  refine walkG_take (i := 10) (v := ?v10_23) rfl (by kernel_rfl) (by kernel_rfl) (by kernel_rfl) (fun _ _ _ h => h) (Or.inl ⟨by rfl, ?hy10_23⟩) (by assumption) ?rest10_23
                  case hy10_23 =>
                    intro w hSw
                    (try dsimp only at hSw)
                    go_simp
                    (try with_reducible rfl)
                  try simp only [Act.put, List.setIfInBounds_toArray, List.set_cons_zero, List.set_cons_succ]
                  refine walkG_some [11] (by kernel_rfl) (by decide) ⟨?_, trivial⟩
                  · refine ⟨by decide, _, rfl, fun K hK => ?_⟩
                    go_simp
                    have hnew := World.alloc_heap_new u22 (.cells #[.int .i64 0, .slice none 0 0] 64)
                    obtain ⟨b_u24, hb_u24⟩ : ∃ b, u22.heap.size = b := ⟨_, rfl⟩
                    obtain ⟨u24, hw_u24⟩ : ∃ X, u22.alloc (.cells #[.int .i64 0, .slice none 0 0] 64) = X := ⟨_, rfl⟩
                    have hbk : Below u22.heap.size u22 u24 := by rw [← hw_u24]; exact (Below.refl _ _).alloc (Nat.le_refl _) _
                    have hbl : V2.heap.size ≤ b_u24 := by rw [← hb_u24]; exact BV_u22.out.size
                    have BV_u24 := Lib.hid (BV_u22.out.trans (hbk.mono BV_u22.out.size))
                    rw [hb_u24, hw_u24] at hnew
                    rw [hb_u24, hw_u24]
                    have HO_u24 := Lib.hid (ownsRow_past HO_u22.out hbk)
                    have HA_u24 := Lib.hid hnew
                    have hb11 := hbl
                    clear hw_u24 hb_u24 hbk hnew
                    refine hK.out _ _ (HCS.out _ BV_u24.out) (fun hHeld_u24 => ?_)
                    clear hK K
                    try simp only [List.setIfInBounds_toArray, List.set_cons_zero, List.set_cons_succ]
                    obtain ⟨_, y0, y1, y2, y3⟩ := boxZ_of_block HA_u24.out
                    refine walkG_last rfl (by kernel_rfl) (by kernel_rfl) (fun K hK => ?_) _
                    go_simp
                    refine hK.out _ _ ?_
                    clear hK K
                    go_wp2_with fail
                    go_meet
                    exact gAtL BV_u24.out (by rw [HSV.out]; exact HO_u24.out) HZL.out HSMZ.out HA_u24.out hb11
                · refine ⟨by decide, _, rfl, fun K hK => ?_⟩
                  go_simp
                  have hnew := World.alloc_heap_new u21 (.cells #[.int .i64 0, .slice none 0 0] 64)
                  obtain ⟨b_u25, hb_u25⟩ : ∃ b, u21.heap.size = b := ⟨_, rfl⟩
                  obtain ⟨u25, hw_u25⟩ : ∃ X, u21.alloc (.cells #[.int .i64 0, .slice none 0 0] 64) = X := ⟨_, rfl⟩
                  have hbk : Below u21.heap.size u21 u25 := by rw [← hw_u25]; exact (Below.refl _ _).alloc (Nat.le_refl _) _
                  have hbl : V2.heap.size ≤ b_u25 := by rw [← hb_u25]; exact BV_u21.out.size
                  have BV_u25 := Lib.hid (BV_u21.out.trans (hbk.mono BV_u21.out.size))
                  rw [hb_u25, hw_u25] at hnew
                  rw [hb_u25, hw_u25]
                  have HO_u25 := Lib.hid (ownsRow_past HO_u21.out hbk)
                  have HE_u25 := Lib.hid (blk_below HE_u21.out hbk)
                  have HA_u25 := Lib.hid hnew
                  have hb11 := hbl
                  clear hw_u25 hb_u25 hbk hnew
                  refine hK.out _ _ (HCS.out _ BV_u25.out) (fun hHeld_u25 => ?_)
                  clear hK K
                  try simp only [List.setIfInBounds_toArray, List.set_cons_zero, List.set_cons_succ]
                  refine walkG_some [9] (by kernel_rfl) (by decide) ⟨?_, trivial⟩
                  · refine ⟨by decide, _, rfl, fun K hK => ?_⟩
                    refine Eq.mpr (if_pos (by kernel_rfl)) ?_
                    refine wp_append_own _ _ _ 59 (by rfl) V2.heap.size 9 i0 (.string ByteArray.empty) 1 16 Try.underlying59 hi0 hz0 hz1 hz2 rfl (by decide) (.slice (some ⟨g_u21, 0, none⟩) n c_u21) n (strsV zs) (by rfl) HO_u25.out ⟨b_u20, 0, none⟩ 1 1 [.string x] (by rfl) rfl (World.news_of_block (cs := #[.string x]) (t := 9) (fr := (0, 0)) HE_u25.out) (fun u hu => by simp at hu; subst hu; rfl) (by unfold maxLen; omega) (by omega) BV_u25.out.size ?_
                    intro v6 u26 hown6 hgr6 _
                    obtain ⟨g_u26, c_u26, rfl⟩ := ownsRow_succ hown6
                    have BV_u26 : Hid (Below V2.heap.size V2 u26) := Lib.hid (BV_u25.out.grown hgr6 BV_u25.out.size fun j e => by cases e; exact own_ge HO_u25.out g_u21 rfl)
                    have HO_u26 := Lib.hid hown6
                    have HA_u26 := Lib.hid (blk_grown HA_u25.out hgr6 (ownT_ne HO_u25.out HA_u25.out (by decide)))
                    clear hown6 hgr6
                    refine hK.out _ _ (HCS.out _ BV_u26.out) (fun hHeld_u26 => ?_)
                    clear hK K
                    try simp only [List.setIfInBounds_toArray, List.set_cons_zero, List.set_cons_succ]
                    refine walkG_take (i := 10) (v := ?v10_27) rfl (by kernel_rfl) (by kernel_rfl) (by kernel_rfl) (fun _ _ _ h => h) (Or.inl ⟨by rfl, ?hy10_27⟩) (by assumption) ?rest10_27
                    case hy10_27 =>
                      intro w hSw
                      (try dsimp only at hSw)
                      go_simp
                      (try with_reducible rfl)
                    try simp only [Act.put, List.setIfInBounds_toArray, List.set_cons_zero, List.set_cons_succ]
                    obtain ⟨_, y0, y1, y2, y3⟩ := boxZ_of_block HA_u26.out
                    refine walkG_last rfl (by kernel_rfl) (by kernel_rfl) (fun K hK => ?_) _
                    go_simp
                    refine hK.out _ _ ?_
                    clear hK K
                    go_wp2_with fail
                    go_meet
                    exact gAtL BV_u26.out (by rw [HSV.out]; exact HO_u26.out) HZL.out HSMZ.out HA_u26.out hb11
              · refine ⟨by decide, _, rfl, fun K hK => ?_⟩
                go_simp
                have hnew := World.alloc_heap_new u20 (.cells #[.int .i64 0, .slice none 0 0] 64)
                obtain ⟨b_u28, hb_u28⟩ : ∃ b, u20.heap.size = b := ⟨_, rfl⟩
                obtain ⟨u28, hw_u28⟩ : ∃ X, u20.alloc (.cells #[.int .i64 0, .slice none 0 0] 64) = X := ⟨_, rfl⟩
                have hbk : Below u20.heap.size u20 u28 := by rw [← hw_u28]; exact (Below.refl _ _).alloc (Nat.le_refl _) _
                have hbl : V2.heap.size ≤ b_u28 := by rw [← hb_u28]; exact BV_u20.out.size
                have BV_u28 := Lib.hid (BV_u20.out.trans (hbk.mono BV_u20.out.size))
                rw [hb_u28, hw_u28] at hnew
                rw [hb_u28, hw_u28]
                have HO_u28 := Lib.hid (ownsRow_past HO_u20.out hbk)
                have HE_u28 := Lib.hid (blk_below HE_u20.out hbk)
                have HA_u28 := Lib.hid hnew
                have hb11 := hbl
                clear hw_u28 hb_u28 hbk hnew
                refine hK.out _ _ (HCS.out _ BV_u28.out) (fun hHeld_u28 => ?_)
                clear hK K
                try simp only [List.setIfInBounds_toArray, List.set_cons_zero, List.set_cons_succ]
                refine walkG_some [6] (by kernel_rfl) (by decide) ⟨?_, trivial⟩
                · refine ⟨by decide, _, rfl, fun K hK => ?_⟩
                  refine Eq.mpr (if_pos (by kernel_rfl)) ?_
                  refine wp_append_own _ _ _ 59 (by rfl) V2.heap.size 9 i0 (.string ByteArray.empty) 1 16 Try.underlying59 hi0 hz0 hz1 hz2 rfl (by decide) (.slice (some ⟨b_u7, 0, none⟩) 0 0) 0 [] (by rfl) HO_u28.out ⟨g, 0, none⟩ n cap (strsV zs) (by rfl) (by rw [strsV_len, HN.out, Nat.mul_one]) (HNEWS.out _ BV_u28.out) HONE.out (by unfold maxLen; omega) (by omega) BV_u28.out.size ?_
                  intro v6 u29 hown6 hgr6 hnil6
                  rw [Nat.zero_add, List.nil_append] at hown6
                  obtain ⟨g_u29, c_u29, rfl⟩ : ∃ g1 c1, v6 = .slice (some ⟨g1, 0, none⟩) n c1 := by
                    rcases hown6.2 with ⟨rfl, _⟩ | ⟨g1, c1, _, rfl, _⟩
                    · have h := (hnil6.1 rfl).1
                      cases h
                    · exact ⟨g1, c1, rfl⟩
                  have BV_u29 : Hid (Below V2.heap.size V2 u29) := Lib.hid (BV_u28.out.grown hgr6 BV_u28.out.size fun j e => by cases e; exact own_ge HO_u28.out b_u7 rfl)
                  have HO_u29 := Lib.hid hown6
                  have HE_u29 := Lib.hid (blk_grown HE_u28.out hgr6 (own0_ne HO_u28.out HE_u28.out))
                  have HA_u29 := Lib.hid (blk_grown HA_u28.out hgr6 (ownT_ne HO_u28.out HA_u28.out (by decide)))
                  clear hown6 hgr6 hnil6
                  refine hK.out _ _ (HCS.out _ BV_u29.out) (fun hHeld_u29 => ?_)
                  clear hK K
                  try simp only [List.setIfInBounds_toArray, List.set_cons_zero, List.set_cons_succ]
                  refine walkG_some [9] (by kernel_rfl) (by decide) ⟨?_, trivial⟩
                  · refine ⟨by decide, _, rfl, fun K hK => ?_⟩
                    refine Eq.mpr (if_pos (by kernel_rfl)) ?_
                    refine wp_append_own _ _ _ 59 (by rfl) V2.heap.size 9 i0 (.string ByteArray.empty) 1 16 Try.underlying59 hi0 hz0 hz1 hz2 rfl (by decide) (.slice (some ⟨g_u29, 0, none⟩) n c_u29) n (strsV zs) (by rfl) HO_u29.out ⟨b_u20, 0, none⟩ 1 1 [.string x] (by rfl) rfl (World.news_of_block (cs := #[.string x]) (t := 9) (fr := (0, 0)) HE_u29.out) (fun u hu => by simp at hu; subst hu; rfl) (by unfold maxLen; omega) (by omega) BV_u29.out.size ?_
                    intro v6 u30 hown6 hgr6 _
                    obtain ⟨g_u30, c_u30, rfl⟩ := ownsRow_succ hown6
                    have BV_u30 : Hid (Below V2.heap.size V2 u30) := Lib.hid (BV_u29.out.grown hgr6 BV_u29.out.size fun j e => by cases e; exact own_ge HO_u29.out g_u29 rfl)
                    have HO_u30 := Lib.hid hown6
                    have HA_u30 := Lib.hid (blk_grown HA_u29.out hgr6 (ownT_ne HO_u29.out HA_u29.out (by decide)))
                    clear hown6 hgr6
                    refine hK.out _ _ (HCS.out _ BV_u30.out) (fun hHeld_u30 => ?_)
                    clear hK K
                    try simp only [List.setIfInBounds_toArray, List.set_cons_zero, List.set_cons_succ]
                    refine walkG_take (i := 10) (v := ?v10_31) rfl (by kernel_rfl) (by kernel_rfl) (by kernel_rfl) (fun _ _ _ h => h) (Or.inl ⟨by rfl, ?hy10_31⟩) (by assumption) ?rest10_31
                    case hy10_31 =>
                      intro w hSw
                      (try dsimp only at hSw)
                      go_simp
                      (try with_reducible rfl)
                    try simp only [Act.put, List.setIfInBounds_toArray, List.set_cons_zero, List.set_cons_succ]
                    obtain ⟨_, y0, y1, y2, y3⟩ := boxZ_of_block HA_u30.out
                    refine walkG_last rfl (by kernel_rfl) (by kernel_rfl) (fun K hK => ?_) _
                    go_simp
                    refine hK.out _ _ ?_
                    clear hK K
                    go_wp2_with fail
                    go_meet
                    exact gAtL BV_u30.out (by rw [HSV.out]; exact HO_u30.out) HZL.out HSMZ.out HA_u30.out hb11
            · refine ⟨by decide, _, rfl, fun K hK => ?_⟩
              go_simp
              have hnew := World.alloc_heap_new u7 (.cells #[.int .i64 0, .slice none 0 0] 64)
              obtain ⟨b_u32, hb_u32⟩ : ∃ b, u7.heap.size = b := ⟨_, rfl⟩
              obtain ⟨u32, hw_u32⟩ : ∃ X, u7.alloc (.cells #[.int .i64 0, .slice none 0 0] 64) = X := ⟨_, rfl⟩
              have hbk : Below u7.heap.size u7 u32 := by rw [← hw_u32]; exact (Below.refl _ _).alloc (Nat.le_refl _) _
              have hbl : V2.heap.size ≤ b_u32 := by rw [← hb_u32]; exact BV_u7.out.size
              have BV_u32 := Lib.hid (BV_u7.out.trans (hbk.mono BV_u7.out.size))
              rw [hb_u32, hw_u32] at hnew
              rw [hb_u32, hw_u32]
              have HO_u32 := Lib.hid (ownsRow_past HO_u7.out hbk)
              have HA_u32 := Lib.hid hnew
              have hb11 := hbl
              clear hw_u32 hb_u32 hbk hnew
              refine hK.out _ _ (HCS.out _ BV_u32.out) (fun hHeld_u32 => ?_)
              clear hK K
              try simp only [List.setIfInBounds_toArray, List.set_cons_zero, List.set_cons_succ]
              refine walkG_some [6, 8] (by kernel_rfl) (by decide) ⟨?_, ?_, trivial⟩
              · refine ⟨by decide, _, rfl, fun K hK => ?_⟩
                refine Eq.mpr (if_pos (by kernel_rfl)) ?_
                refine wp_append_own _ _ _ 59 (by rfl) V2.heap.size 9 i0 (.string ByteArray.empty) 1 16 Try.underlying59 hi0 hz0 hz1 hz2 rfl (by decide) (.slice (some ⟨b_u7, 0, none⟩) 0 0) 0 [] (by rfl) HO_u32.out ⟨g, 0, none⟩ n cap (strsV zs) (by rfl) (by rw [strsV_len, HN.out, Nat.mul_one]) (HNEWS.out _ BV_u32.out) HONE.out (by unfold maxLen; omega) (by omega) BV_u32.out.size ?_
                intro v6 u33 hown6 hgr6 hnil6
                rw [Nat.zero_add, List.nil_append] at hown6
                obtain ⟨g_u33, c_u33, rfl⟩ : ∃ g1 c1, v6 = .slice (some ⟨g1, 0, none⟩) n c1 := by
                  rcases hown6.2 with ⟨rfl, _⟩ | ⟨g1, c1, _, rfl, _⟩
                  · have h := (hnil6.1 rfl).1
                    cases h
                  · exact ⟨g1, c1, rfl⟩
                have BV_u33 : Hid (Below V2.heap.size V2 u33) := Lib.hid (BV_u32.out.grown hgr6 BV_u32.out.size fun j e => by cases e; exact own_ge HO_u32.out b_u7 rfl)
                have HO_u33 := Lib.hid hown6
                have HA_u33 := Lib.hid (blk_grown HA_u32.out hgr6 (ownT_ne HO_u32.out HA_u32.out (by decide)))
                clear hown6 hgr6 hnil6
                refine hK.out _ _ (HCS.out _ BV_u33.out) (fun hHeld_u33 => ?_)
                clear hK K
                try simp only [List.setIfInBounds_toArray, List.set_cons_zero, List.set_cons_succ]
                refine walkG_some [8] (by kernel_rfl) (by decide) ⟨?_, trivial⟩
                · refine ⟨by decide, _, rfl, fun K hK => ?_⟩
                  go_simp
                  have hnew := World.alloc_heap_new u33 (.cells #[.string x] 9)
                  obtain ⟨b_u34, hb_u34⟩ : ∃ b, u33.heap.size = b := ⟨_, rfl⟩
                  obtain ⟨u34, hw_u34⟩ : ∃ X, u33.alloc (.cells #[.string x] 9) = X := ⟨_, rfl⟩
                  have hbk : Below u33.heap.size u33 u34 := by rw [← hw_u34]; exact (Below.refl _ _).alloc (Nat.le_refl _) _
                  have hbl : V2.heap.size ≤ b_u34 := by rw [← hb_u34]; exact BV_u33.out.size
                  have BV_u34 := Lib.hid (BV_u33.out.trans (hbk.mono BV_u33.out.size))
                  rw [hb_u34, hw_u34] at hnew
                  rw [hb_u34, hw_u34]
                  have HO_u34 := Lib.hid (ownsRow_past HO_u33.out hbk)
                  have HA_u34 := Lib.hid (blk_below HA_u33.out hbk)
                  have HE_u34 := Lib.hid hnew
                  clear hbl
                  clear hw_u34 hb_u34 hbk hnew
                  refine hK.out _ _ (HCS.out _ BV_u34.out) (fun hHeld_u34 => ?_)
                  clear hK K
                  try simp only [List.setIfInBounds_toArray, List.set_cons_zero, List.set_cons_succ]
                  refine walkG_some [9] (by kernel_rfl) (by decide) ⟨?_, trivial⟩
                  · refine ⟨by decide, _, rfl, fun K hK => ?_⟩
                    refine Eq.mpr (if_pos (by kernel_rfl)) ?_
                    refine wp_append_own _ _ _ 59 (by rfl) V2.heap.size 9 i0 (.string ByteArray.empty) 1 16 Try.underlying59 hi0 hz0 hz1 hz2 rfl (by decide) (.slice (some ⟨g_u33, 0, none⟩) n c_u33) n (strsV zs) (by rfl) HO_u34.out ⟨b_u34, 0, none⟩ 1 1 [.string x] (by rfl) rfl (World.news_of_block (cs := #[.string x]) (t := 9) (fr := (0, 0)) HE_u34.out) (fun u hu => by simp at hu; subst hu; rfl) (by unfold maxLen; omega) (by omega) BV_u34.out.size ?_
                    intro v6 u35 hown6 hgr6 _
                    obtain ⟨g_u35, c_u35, rfl⟩ := ownsRow_succ hown6
                    have BV_u35 : Hid (Below V2.heap.size V2 u35) := Lib.hid (BV_u34.out.grown hgr6 BV_u34.out.size fun j e => by cases e; exact own_ge HO_u34.out g_u33 rfl)
                    have HO_u35 := Lib.hid hown6
                    have HA_u35 := Lib.hid (blk_grown HA_u34.out hgr6 (ownT_ne HO_u34.out HA_u34.out (by decide)))
                    clear hown6 hgr6
                    refine hK.out _ _ (HCS.out _ BV_u35.out) (fun hHeld_u35 => ?_)
                    clear hK K
                    try simp only [List.setIfInBounds_toArray, List.set_cons_zero, List.set_cons_succ]
                    refine walkG_take (i := 10) (v := ?v10_36) rfl (by kernel_rfl) (by kernel_rfl) (by kernel_rfl) (fun _ _ _ h => h) (Or.inl ⟨by rfl, ?hy10_36⟩) (by assumption) ?rest10_36
                    case hy10_36 =>
                      intro w hSw
                      (try dsimp only at hSw)
                      go_simp
                      (try with_reducible rfl)
                    try simp only [Act.put, List.setIfInBounds_toArray, List.set_cons_zero, List.set_cons_succ]
                    obtain ⟨_, y0, y1, y2, y3⟩ := boxZ_of_block HA_u35.out
                    refine walkG_last rfl (by kernel_rfl) (by kernel_rfl) (fun K hK => ?_) _
                    go_simp
                    refine hK.out _ _ ?_
                    clear hK K
                    go_wp2_with fail
                    go_meet
                    exact gAtL BV_u35.out (by rw [HSV.out]; exact HO_u35.out) HZL.out HSMZ.out HA_u35.out hb11
              · refine ⟨by decide, _, rfl, fun K hK => ?_⟩
                go_simp
                have hnew := World.alloc_heap_new u32 (.cells #[.string x] 9)
                obtain ⟨b_u37, hb_u37⟩ : ∃ b, u32.heap.size = b := ⟨_, rfl⟩
                obtain ⟨u37, hw_u37⟩ : ∃ X, u32.alloc (.cells #[.string x] 9) = X := ⟨_, rfl⟩
                have hbk : Below u32.heap.size u32 u37 := by rw [← hw_u37]; exact (Below.refl _ _).alloc (Nat.le_refl _) _
                have hbl : V2.heap.size ≤ b_u37 := by rw [← hb_u37]; exact BV_u32.out.size
                have BV_u37 := Lib.hid (BV_u32.out.trans (hbk.mono BV_u32.out.size))
                rw [hb_u37, hw_u37] at hnew
                rw [hb_u37, hw_u37]
                have HO_u37 := Lib.hid (ownsRow_past HO_u32.out hbk)
                have HA_u37 := Lib.hid (blk_below HA_u32.out hbk)
                have HE_u37 := Lib.hid hnew
                clear hbl
                clear hw_u37 hb_u37 hbk hnew
                refine hK.out _ _ (HCS.out _ BV_u37.out) (fun hHeld_u37 => ?_)
                clear hK K
                try simp only [List.setIfInBounds_toArray, List.set_cons_zero, List.set_cons_succ]
                refine walkG_some [6] (by kernel_rfl) (by decide) ⟨?_, trivial⟩
                · refine ⟨by decide, _, rfl, fun K hK => ?_⟩
                  refine Eq.mpr (if_pos (by kernel_rfl)) ?_
                  refine wp_append_own _ _ _ 59 (by rfl) V2.heap.size 9 i0 (.string ByteArray.empty) 1 16 Try.underlying59 hi0 hz0 hz1 hz2 rfl (by decide) (.slice (some ⟨b_u7, 0, none⟩) 0 0) 0 [] (by rfl) HO_u37.out ⟨g, 0, none⟩ n cap (strsV zs) (by rfl) (by rw [strsV_len, HN.out, Nat.mul_one]) (HNEWS.out _ BV_u37.out) HONE.out (by unfold maxLen; omega) (by omega) BV_u37.out.size ?_
                  intro v6 u38 hown6 hgr6 hnil6
                  rw [Nat.zero_add, List.nil_append] at hown6
                  obtain ⟨g_u38, c_u38, rfl⟩ : ∃ g1 c1, v6 = .slice (some ⟨g1, 0, none⟩) n c1 := by
                    rcases hown6.2 with ⟨rfl, _⟩ | ⟨g1, c1, _, rfl, _⟩
                    · have h := (hnil6.1 rfl).1
                      cases h
                    · exact ⟨g1, c1, rfl⟩
                  have BV_u38 : Hid (Below V2.heap.size V2 u38) := Lib.hid (BV_u37.out.grown hgr6 BV_u37.out.size fun j e => by cases e; exact own_ge HO_u37.out b_u7 rfl)
                  have HO_u38 := Lib.hid hown6
                  have HE_u38 := Lib.hid (blk_grown HE_u37.out hgr6 (own0_ne HO_u37.out HE_u37.out))
                  have HA_u38 := Lib.hid (blk_grown HA_u37.out hgr6 (ownT_ne HO_u37.out HA_u37.out (by decide)))
                  clear hown6 hgr6 hnil6
                  refine hK.out _ _ (HCS.out _ BV_u38.out) (fun hHeld_u38 => ?_)
                  clear hK K
                  try simp only [List.setIfInBounds_toArray, List.set_cons_zero, List.set_cons_succ]
                  refine walkG_some [9] (by kernel_rfl) (by decide) ⟨?_, trivial⟩
                  · refine ⟨by decide, _, rfl, fun K hK => ?_⟩
                    refine Eq.mpr (if_pos (by kernel_rfl)) ?_
                    refine wp_append_own _ _ _ 59 (by rfl) V2.heap.size 9 i0 (.string ByteArray.empty) 1 16 Try.underlying59 hi0 hz0 hz1 hz2 rfl (by decide) (.slice (some ⟨g_u38, 0, none⟩) n c_u38) n (strsV zs) (by rfl) HO_u38.out ⟨b_u37, 0, none⟩ 1 1 [.string x] (by rfl) rfl (World.news_of_block (cs := #[.string x]) (t := 9) (fr := (0, 0)) HE_u38.out) (fun u hu => by simp at hu; subst hu; rfl) (by unfold maxLen; omega) (by omega) BV_u38.out.size ?_
                    intro v6 u39 hown6 hgr6 _
                    obtain ⟨g_u39, c_u39, rfl⟩ := ownsRow_succ hown6
                    have BV_u39 : Hid (Below V2.heap.size V2 u39) := Lib.hid (BV_u38.out.grown hgr6 BV_u38.out.size fun j e => by cases e; exact own_ge HO_u38.out g_u38 rfl)
                    have HO_u39 := Lib.hid hown6
                    have HA_u39 := Lib.hid (blk_grown HA_u38.out hgr6 (ownT_ne HO_u38.out HA_u38.out (by decide)))
                    clear hown6 hgr6
                    refine hK.out _ _ (HCS.out _ BV_u39.out) (fun hHeld_u39 => ?_)
                    clear hK K
                    try simp only [List.setIfInBounds_toArray, List.set_cons_zero, List.set_cons_succ]
                    refine walkG_take (i := 10) (v := ?v10_40) rfl (by kernel_rfl) (by kernel_rfl) (by kernel_rfl) (fun _ _ _ h => h) (Or.inl ⟨by rfl, ?hy10_40⟩) (by assumption) ?rest10_40
                    case hy10_40 =>
                      intro w hSw
                      (try dsimp only at hSw)
                      go_simp
                      (try with_reducible rfl)
                    try simp only [Act.put, List.setIfInBounds_toArray, List.set_cons_zero, List.set_cons_succ]
                    obtain ⟨_, y0, y1, y2, y3⟩ := boxZ_of_block HA_u39.out
                    refine walkG_last rfl (by kernel_rfl) (by kernel_rfl) (fun K hK => ?_) _
                    go_simp
                    refine hK.out _ _ ?_
                    clear hK K
                    go_wp2_with fail
                    go_meet
                    exact gAtL BV_u39.out (by rw [HSV.out]; exact HO_u39.out) HZL.out HSMZ.out HA_u39.out hb11
          · refine ⟨by decide, _, rfl, fun K hK => ?_⟩
            go_simp
            have hnew := World.alloc_heap_new U (.cells #[.string x] 9)
            obtain ⟨b_u41, hb_u41⟩ : ∃ b, U.heap.size = b := ⟨_, rfl⟩
            obtain ⟨u41, hw_u41⟩ : ∃ X, U.alloc (.cells #[.string x] 9) = X := ⟨_, rfl⟩
            have hbk : Below U.heap.size U u41 := by rw [← hw_u41]; exact (Below.refl _ _).alloc (Nat.le_refl _) _
            have hbl : V2.heap.size ≤ b_u41 := by rw [← hb_u41]; exact BV_U.out.size
            have BV_u41 := Lib.hid (BV_U.out.trans (hbk.mono BV_U.out.size))
            rw [hb_u41, hw_u41] at hnew
            rw [hb_u41, hw_u41]
            have HE_u41 := Lib.hid hnew
            clear hbl
            clear hw_u41 hb_u41 hbk hnew
            refine hK.out _ _ (HCS.out _ BV_u41.out) (fun hHeld_u41 => ?_)
            clear hK K
            try simp only [List.setIfInBounds_toArray, List.set_cons_zero, List.set_cons_succ]
            refine walkG_some [3, 11] (by kernel_rfl) (by decide) ⟨?_, ?_, trivial⟩
            · refine ⟨by decide, _, rfl, fun K hK => ?_⟩
              go_simp
              have hmade := World.ownsRow_made (e := 9) (size := 1) u41 #[] 0 BV_u41.out.size (Nat.zero_le _) rfl
              obtain ⟨b_u42, hb_u42⟩ : ∃ b, u41.heap.size = b := ⟨_, rfl⟩
              obtain ⟨u42, hw_u42⟩ : ∃ X, u41.alloc (.cells #[] 9) = X := ⟨_, rfl⟩
              have hbk : Below u41.heap.size u41 u42 := by rw [← hw_u42]; exact (Below.refl _ _).alloc (Nat.le_refl _) _
              have BV_u42 := Lib.hid (BV_u41.out.trans (hbk.mono BV_u41.out.size))
              rw [hw_u42, hb_u42] at hmade
              have HO_u42 := Lib.hid hmade
              rw [hb_u42, hw_u42]
              have HE_u42 := Lib.hid (blk_below HE_u41.out hbk)
              clear hw_u42 hb_u42 hbk hmade
              refine hK.out _ _ (HCS.out _ BV_u42.out) (fun hHeld_u42 => ?_)
              clear hK K
              try simp only [List.setIfInBounds_toArray, List.set_cons_zero, List.set_cons_succ]
              refine walkG_some [6, 11] (by kernel_rfl) (by decide) ⟨?_, ?_, trivial⟩
              · refine ⟨by decide, _, rfl, fun K hK => ?_⟩
                refine Eq.mpr (if_pos (by kernel_rfl)) ?_
                refine wp_append_own _ _ _ 59 (by rfl) V2.heap.size 9 i0 (.string ByteArray.empty) 1 16 Try.underlying59 hi0 hz0 hz1 hz2 rfl (by decide) (.slice (some ⟨b_u42, 0, none⟩) 0 0) 0 [] (by rfl) HO_u42.out ⟨g, 0, none⟩ n cap (strsV zs) (by rfl) (by rw [strsV_len, HN.out, Nat.mul_one]) (HNEWS.out _ BV_u42.out) HONE.out (by unfold maxLen; omega) (by omega) BV_u42.out.size ?_
                intro v6 u43 hown6 hgr6 hnil6
                rw [Nat.zero_add, List.nil_append] at hown6
                obtain ⟨g_u43, c_u43, rfl⟩ : ∃ g1 c1, v6 = .slice (some ⟨g1, 0, none⟩) n c1 := by
                  rcases hown6.2 with ⟨rfl, _⟩ | ⟨g1, c1, _, rfl, _⟩
                  · have h := (hnil6.1 rfl).1
                    cases h
                  · exact ⟨g1, c1, rfl⟩
                have BV_u43 : Hid (Below V2.heap.size V2 u43) := Lib.hid (BV_u42.out.grown hgr6 BV_u42.out.size fun j e => by cases e; exact own_ge HO_u42.out b_u42 rfl)
                have HO_u43 := Lib.hid hown6
                have HE_u43 := Lib.hid (blk_grown HE_u42.out hgr6 (own0_ne HO_u42.out HE_u42.out))
                clear hown6 hgr6 hnil6
                refine hK.out _ _ (HCS.out _ BV_u43.out) (fun hHeld_u43 => ?_)
                clear hK K
                try simp only [List.setIfInBounds_toArray, List.set_cons_zero, List.set_cons_succ]
                refine walkG_some [9, 11] (by kernel_rfl) (by decide) ⟨?_, ?_, trivial⟩
                · refine ⟨by decide, _, rfl, fun K hK => ?_⟩
                  refine Eq.mpr (if_pos (by kernel_rfl)) ?_
                  refine wp_append_own _ _ _ 59 (by rfl) V2.heap.size 9 i0 (.string ByteArray.empty) 1 16 Try.underlying59 hi0 hz0 hz1 hz2 rfl (by decide) (.slice (some ⟨g_u43, 0, none⟩) n c_u43) n (strsV zs) (by rfl) HO_u43.out ⟨b_u41, 0, none⟩ 1 1 [.string x] (by rfl) rfl (World.news_of_block (cs := #[.string x]) (t := 9) (fr := (0, 0)) HE_u43.out) (fun u hu => by simp at hu; subst hu; rfl) (by unfold maxLen; omega) (by omega) BV_u43.out.size ?_
                  intro v6 u44 hown6 hgr6 _
                  obtain ⟨g_u44, c_u44, rfl⟩ := ownsRow_succ hown6
                  have BV_u44 : Hid (Below V2.heap.size V2 u44) := Lib.hid (BV_u43.out.grown hgr6 BV_u43.out.size fun j e => by cases e; exact own_ge HO_u43.out g_u43 rfl)
                  have HO_u44 := Lib.hid hown6
                  clear hown6 hgr6
                  refine hK.out _ _ (HCS.out _ BV_u44.out) (fun hHeld_u44 => ?_)
                  clear hK K
                  try simp only [List.setIfInBounds_toArray, List.set_cons_zero, List.set_cons_succ]
                  refine walkG_take (i := 10) (v := ?v10_45) rfl (by kernel_rfl) (by kernel_rfl) (by kernel_rfl) (fun _ _ _ h => h) (Or.inl ⟨by rfl, ?hy10_45⟩) (by assumption) ?rest10_45
                  case hy10_45 =>
                    intro w hSw
                    (try dsimp only at hSw)
                    go_simp
                    (try with_reducible rfl)
                  try simp only [Act.put, List.setIfInBounds_toArray, List.set_cons_zero, List.set_cons_succ]
                  refine walkG_some [11] (by kernel_rfl) (by decide) ⟨?_, trivial⟩
                  · refine ⟨by decide, _, rfl, fun K hK => ?_⟩
                    go_simp
                    have hnew := World.alloc_heap_new u44 (.cells #[.int .i64 0, .slice none 0 0] 64)
                    obtain ⟨b_u46, hb_u46⟩ : ∃ b, u44.heap.size = b := ⟨_, rfl⟩
                    obtain ⟨u46, hw_u46⟩ : ∃ X, u44.alloc (.cells #[.int .i64 0, .slice none 0 0] 64) = X := ⟨_, rfl⟩
                    have hbk : Below u44.heap.size u44 u46 := by rw [← hw_u46]; exact (Below.refl _ _).alloc (Nat.le_refl _) _
                    have hbl : V2.heap.size ≤ b_u46 := by rw [← hb_u46]; exact BV_u44.out.size
                    have BV_u46 := Lib.hid (BV_u44.out.trans (hbk.mono BV_u44.out.size))
                    rw [hb_u46, hw_u46] at hnew
                    rw [hb_u46, hw_u46]
                    have HO_u46 := Lib.hid (ownsRow_past HO_u44.out hbk)
                    have HA_u46 := Lib.hid hnew
                    have hb11 := hbl
                    clear hw_u46 hb_u46 hbk hnew
                    refine hK.out _ _ (HCS.out _ BV_u46.out) (fun hHeld_u46 => ?_)
                    clear hK K
                    try simp only [List.setIfInBounds_toArray, List.set_cons_zero, List.set_cons_succ]
                    obtain ⟨_, y0, y1, y2, y3⟩ := boxZ_of_block HA_u46.out
                    refine walkG_last rfl (by kernel_rfl) (by kernel_rfl) (fun K hK => ?_) _
                    go_simp
                    refine hK.out _ _ ?_
                    clear hK K
                    go_wp2_with fail
                    go_meet
                    exact gAtL BV_u46.out (by rw [HSV.out]; exact HO_u46.out) HZL.out HSMZ.out HA_u46.out hb11
                · refine ⟨by decide, _, rfl, fun K hK => ?_⟩
                  go_simp
                  have hnew := World.alloc_heap_new u43 (.cells #[.int .i64 0, .slice none 0 0] 64)
                  obtain ⟨b_u47, hb_u47⟩ : ∃ b, u43.heap.size = b := ⟨_, rfl⟩
                  obtain ⟨u47, hw_u47⟩ : ∃ X, u43.alloc (.cells #[.int .i64 0, .slice none 0 0] 64) = X := ⟨_, rfl⟩
                  have hbk : Below u43.heap.size u43 u47 := by rw [← hw_u47]; exact (Below.refl _ _).alloc (Nat.le_refl _) _
                  have hbl : V2.heap.size ≤ b_u47 := by rw [← hb_u47]; exact BV_u43.out.size
                  have BV_u47 := Lib.hid (BV_u43.out.trans (hbk.mono BV_u43.out.size))
                  rw [hb_u47, hw_u47] at hnew
                  rw [hb_u47, hw_u47]
                  have HO_u47 := Lib.hid (ownsRow_past HO_u43.out hbk)
                  have HE_u47 := Lib.hid (blk_below HE_u43.out hbk)
                  have HA_u47 := Lib.hid hnew
                  have hb11 := hbl
                  clear hw_u47 hb_u47 hbk hnew
                  refine hK.out _ _ (HCS.out _ BV_u47.out) (fun hHeld_u47 => ?_)
                  clear hK K
                  try simp only [List.setIfInBounds_toArray, List.set_cons_zero, List.set_cons_succ]
                  refine walkG_some [9] (by kernel_rfl) (by decide) ⟨?_, trivial⟩
                  · refine ⟨by decide, _, rfl, fun K hK => ?_⟩
                    refine Eq.mpr (if_pos (by kernel_rfl)) ?_
                    refine wp_append_own _ _ _ 59 (by rfl) V2.heap.size 9 i0 (.string ByteArray.empty) 1 16 Try.underlying59 hi0 hz0 hz1 hz2 rfl (by decide) (.slice (some ⟨g_u43, 0, none⟩) n c_u43) n (strsV zs) (by rfl) HO_u47.out ⟨b_u41, 0, none⟩ 1 1 [.string x] (by rfl) rfl (World.news_of_block (cs := #[.string x]) (t := 9) (fr := (0, 0)) HE_u47.out) (fun u hu => by simp at hu; subst hu; rfl) (by unfold maxLen; omega) (by omega) BV_u47.out.size ?_
                    intro v6 u48 hown6 hgr6 _
                    obtain ⟨g_u48, c_u48, rfl⟩ := ownsRow_succ hown6
                    have BV_u48 : Hid (Below V2.heap.size V2 u48) := Lib.hid (BV_u47.out.grown hgr6 BV_u47.out.size fun j e => by cases e; exact own_ge HO_u47.out g_u43 rfl)
                    have HO_u48 := Lib.hid hown6
                    have HA_u48 := Lib.hid (blk_grown HA_u47.out hgr6 (ownT_ne HO_u47.out HA_u47.out (by decide)))
                    clear hown6 hgr6
                    refine hK.out _ _ (HCS.out _ BV_u48.out) (fun hHeld_u48 => ?_)
                    clear hK K
                    try simp only [List.setIfInBounds_toArray, List.set_cons_zero, List.set_cons_succ]
                    refine walkG_take (i := 10) (v := ?v10_49) rfl (by kernel_rfl) (by kernel_rfl) (by kernel_rfl) (fun _ _ _ h => h) (Or.inl ⟨by rfl, ?hy10_49⟩) (by assumption) ?rest10_49
                    case hy10_49 =>
                      intro w hSw
                      (try dsimp only at hSw)
                      go_simp
                      (try with_reducible rfl)
                    try simp only [Act.put, List.setIfInBounds_toArray, List.set_cons_zero, List.set_cons_succ]
                    obtain ⟨_, y0, y1, y2, y3⟩ := boxZ_of_block HA_u48.out
                    refine walkG_last rfl (by kernel_rfl) (by kernel_rfl) (fun K hK => ?_) _
                    go_simp
                    refine hK.out _ _ ?_
                    clear hK K
                    go_wp2_with fail
                    go_meet
                    exact gAtL BV_u48.out (by rw [HSV.out]; exact HO_u48.out) HZL.out HSMZ.out HA_u48.out hb11
              · refine ⟨by decide, _, rfl, fun K hK => ?_⟩
                go_simp
                have hnew := World.alloc_heap_new u42 (.cells #[.int .i64 0, .slice none 0 0] 64)
                obtain ⟨b_u50, hb_u50⟩ : ∃ b, u42.heap.size = b := ⟨_, rfl⟩
                obtain ⟨u50, hw_u50⟩ : ∃ X, u42.alloc (.cells #[.int .i64 0, .slice none 0 0] 64) = X := ⟨_, rfl⟩
                have hbk : Below u42.heap.size u42 u50 := by rw [← hw_u50]; exact (Below.refl _ _).alloc (Nat.le_refl _) _
                have hbl : V2.heap.size ≤ b_u50 := by rw [← hb_u50]; exact BV_u42.out.size
                have BV_u50 := Lib.hid (BV_u42.out.trans (hbk.mono BV_u42.out.size))
                rw [hb_u50, hw_u50] at hnew
                rw [hb_u50, hw_u50]
                have HO_u50 := Lib.hid (ownsRow_past HO_u42.out hbk)
                have HE_u50 := Lib.hid (blk_below HE_u42.out hbk)
                have HA_u50 := Lib.hid hnew
                have hb11 := hbl
                clear hw_u50 hb_u50 hbk hnew
                refine hK.out _ _ (HCS.out _ BV_u50.out) (fun hHeld_u50 => ?_)
                clear hK K
                try simp only [List.setIfInBounds_toArray, List.set_cons_zero, List.set_cons_succ]
                refine walkG_some [6] (by kernel_rfl) (by decide) ⟨?_, trivial⟩
                · refine ⟨by decide, _, rfl, fun K hK => ?_⟩
                  refine Eq.mpr (if_pos (by kernel_rfl)) ?_
                  refine wp_append_own _ _ _ 59 (by rfl) V2.heap.size 9 i0 (.string ByteArray.empty) 1 16 Try.underlying59 hi0 hz0 hz1 hz2 rfl (by decide) (.slice (some ⟨b_u42, 0, none⟩) 0 0) 0 [] (by rfl) HO_u50.out ⟨g, 0, none⟩ n cap (strsV zs) (by rfl) (by rw [strsV_len, HN.out, Nat.mul_one]) (HNEWS.out _ BV_u50.out) HONE.out (by unfold maxLen; omega) (by omega) BV_u50.out.size ?_
                  intro v6 u51 hown6 hgr6 hnil6
                  rw [Nat.zero_add, List.nil_append] at hown6
                  obtain ⟨g_u51, c_u51, rfl⟩ : ∃ g1 c1, v6 = .slice (some ⟨g1, 0, none⟩) n c1 := by
                    rcases hown6.2 with ⟨rfl, _⟩ | ⟨g1, c1, _, rfl, _⟩
                    · have h := (hnil6.1 rfl).1
                      cases h
                    · exact ⟨g1, c1, rfl⟩
                  have BV_u51 : Hid (Below V2.heap.size V2 u51) := Lib.hid (BV_u50.out.grown hgr6 BV_u50.out.size fun j e => by cases e; exact own_ge HO_u50.out b_u42 rfl)
                  have HO_u51 := Lib.hid hown6
                  have HE_u51 := Lib.hid (blk_grown HE_u50.out hgr6 (own0_ne HO_u50.out HE_u50.out))
                  have HA_u51 := Lib.hid (blk_grown HA_u50.out hgr6 (ownT_ne HO_u50.out HA_u50.out (by decide)))
                  clear hown6 hgr6 hnil6
                  refine hK.out _ _ (HCS.out _ BV_u51.out) (fun hHeld_u51 => ?_)
                  clear hK K
                  try simp only [List.setIfInBounds_toArray, List.set_cons_zero, List.set_cons_succ]
                  refine walkG_some [9] (by kernel_rfl) (by decide) ⟨?_, trivial⟩
                  · refine ⟨by decide, _, rfl, fun K hK => ?_⟩
                    refine Eq.mpr (if_pos (by kernel_rfl)) ?_
                    refine wp_append_own _ _ _ 59 (by rfl) V2.heap.size 9 i0 (.string ByteArray.empty) 1 16 Try.underlying59 hi0 hz0 hz1 hz2 rfl (by decide) (.slice (some ⟨g_u51, 0, none⟩) n c_u51) n (strsV zs) (by rfl) HO_u51.out ⟨b_u41, 0, none⟩ 1 1 [.string x] (by rfl) rfl (World.news_of_block (cs := #[.string x]) (t := 9) (fr := (0, 0)) HE_u51.out) (fun u hu => by simp at hu; subst hu; rfl) (by unfold maxLen; omega) (by omega) BV_u51.out.size ?_
                    intro v6 u52 hown6 hgr6 _
                    obtain ⟨g_u52, c_u52, rfl⟩ := ownsRow_succ hown6
                    have BV_u52 : Hid (Below V2.heap.size V2 u52) := Lib.hid (BV_u51.out.grown hgr6 BV_u51.out.size fun j e => by cases e; exact own_ge HO_u51.out g_u51 rfl)
                    have HO_u52 := Lib.hid hown6
                    have HA_u52 := Lib.hid (blk_grown HA_u51.out hgr6 (ownT_ne HO_u51.out HA_u51.out (by decide)))
                    clear hown6 hgr6
                    refine hK.out _ _ (HCS.out _ BV_u52.out) (fun hHeld_u52 => ?_)
                    clear hK K
                    try simp only [List.setIfInBounds_toArray, List.set_cons_zero, List.set_cons_succ]
                    refine walkG_take (i := 10) (v := ?v10_53) rfl (by kernel_rfl) (by kernel_rfl) (by kernel_rfl) (fun _ _ _ h => h) (Or.inl ⟨by rfl, ?hy10_53⟩) (by assumption) ?rest10_53
                    case hy10_53 =>
                      intro w hSw
                      (try dsimp only at hSw)
                      go_simp
                      (try with_reducible rfl)
                    try simp only [Act.put, List.setIfInBounds_toArray, List.set_cons_zero, List.set_cons_succ]
                    obtain ⟨_, y0, y1, y2, y3⟩ := boxZ_of_block HA_u52.out
                    refine walkG_last rfl (by kernel_rfl) (by kernel_rfl) (fun K hK => ?_) _
                    go_simp
                    refine hK.out _ _ ?_
                    clear hK K
                    go_wp2_with fail
                    go_meet
                    exact gAtL BV_u52.out (by rw [HSV.out]; exact HO_u52.out) HZL.out HSMZ.out HA_u52.out hb11
            · refine ⟨by decide, _, rfl, fun K hK => ?_⟩
              go_simp
              have hnew := World.alloc_heap_new u41 (.cells #[.int .i64 0, .slice none 0 0] 64)
              obtain ⟨b_u54, hb_u54⟩ : ∃ b, u41.heap.size = b := ⟨_, rfl⟩
              obtain ⟨u54, hw_u54⟩ : ∃ X, u41.alloc (.cells #[.int .i64 0, .slice none 0 0] 64) = X := ⟨_, rfl⟩
              have hbk : Below u41.heap.size u41 u54 := by rw [← hw_u54]; exact (Below.refl _ _).alloc (Nat.le_refl _) _
              have hbl : V2.heap.size ≤ b_u54 := by rw [← hb_u54]; exact BV_u41.out.size
              have BV_u54 := Lib.hid (BV_u41.out.trans (hbk.mono BV_u41.out.size))
              rw [hb_u54, hw_u54] at hnew
              rw [hb_u54, hw_u54]
              have HE_u54 := Lib.hid (blk_below HE_u41.out hbk)
              have HA_u54 := Lib.hid hnew
              have hb11 := hbl
              clear hw_u54 hb_u54 hbk hnew
              refine hK.out _ _ (HCS.out _ BV_u54.out) (fun hHeld_u54 => ?_)
              clear hK K
              try simp only [List.setIfInBounds_toArray, List.set_cons_zero, List.set_cons_succ]
              refine walkG_some [3] (by kernel_rfl) (by decide) ⟨?_, trivial⟩
              · refine ⟨by decide, _, rfl, fun K hK => ?_⟩
                go_simp
                have hmade := World.ownsRow_made (e := 9) (size := 1) u54 #[] 0 BV_u54.out.size (Nat.zero_le _) rfl
                obtain ⟨b_u55, hb_u55⟩ : ∃ b, u54.heap.size = b := ⟨_, rfl⟩
                obtain ⟨u55, hw_u55⟩ : ∃ X, u54.alloc (.cells #[] 9) = X := ⟨_, rfl⟩
                have hbk : Below u54.heap.size u54 u55 := by rw [← hw_u55]; exact (Below.refl _ _).alloc (Nat.le_refl _) _
                have BV_u55 := Lib.hid (BV_u54.out.trans (hbk.mono BV_u54.out.size))
                rw [hw_u55, hb_u55] at hmade
                have HO_u55 := Lib.hid hmade
                rw [hb_u55, hw_u55]
                have HE_u55 := Lib.hid (blk_below HE_u54.out hbk)
                have HA_u55 := Lib.hid (blk_below HA_u54.out hbk)
                clear hw_u55 hb_u55 hbk hmade
                refine hK.out _ _ (HCS.out _ BV_u55.out) (fun hHeld_u55 => ?_)
                clear hK K
                try simp only [List.setIfInBounds_toArray, List.set_cons_zero, List.set_cons_succ]
                refine walkG_some [6] (by kernel_rfl) (by decide) ⟨?_, trivial⟩
                · refine ⟨by decide, _, rfl, fun K hK => ?_⟩
                  refine Eq.mpr (if_pos (by kernel_rfl)) ?_
                  refine wp_append_own _ _ _ 59 (by rfl) V2.heap.size 9 i0 (.string ByteArray.empty) 1 16 Try.underlying59 hi0 hz0 hz1 hz2 rfl (by decide) (.slice (some ⟨b_u55, 0, none⟩) 0 0) 0 [] (by rfl) HO_u55.out ⟨g, 0, none⟩ n cap (strsV zs) (by rfl) (by rw [strsV_len, HN.out, Nat.mul_one]) (HNEWS.out _ BV_u55.out) HONE.out (by unfold maxLen; omega) (by omega) BV_u55.out.size ?_
                  intro v6 u56 hown6 hgr6 hnil6
                  rw [Nat.zero_add, List.nil_append] at hown6
                  obtain ⟨g_u56, c_u56, rfl⟩ : ∃ g1 c1, v6 = .slice (some ⟨g1, 0, none⟩) n c1 := by
                    rcases hown6.2 with ⟨rfl, _⟩ | ⟨g1, c1, _, rfl, _⟩
                    · have h := (hnil6.1 rfl).1
                      cases h
                    · exact ⟨g1, c1, rfl⟩
                  have BV_u56 : Hid (Below V2.heap.size V2 u56) := Lib.hid (BV_u55.out.grown hgr6 BV_u55.out.size fun j e => by cases e; exact own_ge HO_u55.out b_u55 rfl)
                  have HO_u56 := Lib.hid hown6
                  have HE_u56 := Lib.hid (blk_grown HE_u55.out hgr6 (own0_ne HO_u55.out HE_u55.out))
                  have HA_u56 := Lib.hid (blk_grown HA_u55.out hgr6 (ownT_ne HO_u55.out HA_u55.out (by decide)))
                  clear hown6 hgr6 hnil6
                  refine hK.out _ _ (HCS.out _ BV_u56.out) (fun hHeld_u56 => ?_)
                  clear hK K
                  try simp only [List.setIfInBounds_toArray, List.set_cons_zero, List.set_cons_succ]
                  refine walkG_some [9] (by kernel_rfl) (by decide) ⟨?_, trivial⟩
                  · refine ⟨by decide, _, rfl, fun K hK => ?_⟩
                    refine Eq.mpr (if_pos (by kernel_rfl)) ?_
                    refine wp_append_own _ _ _ 59 (by rfl) V2.heap.size 9 i0 (.string ByteArray.empty) 1 16 Try.underlying59 hi0 hz0 hz1 hz2 rfl (by decide) (.slice (some ⟨g_u56, 0, none⟩) n c_u56) n (strsV zs) (by rfl) HO_u56.out ⟨b_u41, 0, none⟩ 1 1 [.string x] (by rfl) rfl (World.news_of_block (cs := #[.string x]) (t := 9) (fr := (0, 0)) HE_u56.out) (fun u hu => by simp at hu; subst hu; rfl) (by unfold maxLen; omega) (by omega) BV_u56.out.size ?_
                    intro v6 u57 hown6 hgr6 _
                    obtain ⟨g_u57, c_u57, rfl⟩ := ownsRow_succ hown6
                    have BV_u57 : Hid (Below V2.heap.size V2 u57) := Lib.hid (BV_u56.out.grown hgr6 BV_u56.out.size fun j e => by cases e; exact own_ge HO_u56.out g_u56 rfl)
                    have HO_u57 := Lib.hid hown6
                    have HA_u57 := Lib.hid (blk_grown HA_u56.out hgr6 (ownT_ne HO_u56.out HA_u56.out (by decide)))
                    clear hown6 hgr6
                    refine hK.out _ _ (HCS.out _ BV_u57.out) (fun hHeld_u57 => ?_)
                    clear hK K
                    try simp only [List.setIfInBounds_toArray, List.set_cons_zero, List.set_cons_succ]
                    refine walkG_take (i := 10) (v := ?v10_58) rfl (by kernel_rfl) (by kernel_rfl) (by kernel_rfl) (fun _ _ _ h => h) (Or.inl ⟨by rfl, ?hy10_58⟩) (by assumption) ?rest10_58
                    case hy10_58 =>
                      intro w hSw
                      (try dsimp only at hSw)
                      go_simp
                      (try with_reducible rfl)
                    try simp only [Act.put, List.setIfInBounds_toArray, List.set_cons_zero, List.set_cons_succ]
                    obtain ⟨_, y0, y1, y2, y3⟩ := boxZ_of_block HA_u57.out
                    refine walkG_last rfl (by kernel_rfl) (by kernel_rfl) (fun K hK => ?_) _
                    go_simp
                    refine hK.out _ _ ?_
                    clear hK K
                    go_wp2_with fail
                    go_meet
                    exact gAtL BV_u57.out (by rw [HSV.out]; exact HO_u57.out) HZL.out HSMZ.out HA_u57.out hb11
          · refine ⟨by decide, _, rfl, fun K hK => ?_⟩
            go_simp
            have hnew := World.alloc_heap_new U (.cells #[.int .i64 0, .slice none 0 0] 64)
            obtain ⟨b_u59, hb_u59⟩ : ∃ b, U.heap.size = b := ⟨_, rfl⟩
            obtain ⟨u59, hw_u59⟩ : ∃ X, U.alloc (.cells #[.int .i64 0, .slice none 0 0] 64) = X := ⟨_, rfl⟩
            have hbk : Below U.heap.size U u59 := by rw [← hw_u59]; exact (Below.refl _ _).alloc (Nat.le_refl _) _
            have hbl : V2.heap.size ≤ b_u59 := by rw [← hb_u59]; exact BV_U.out.size
            have BV_u59 := Lib.hid (BV_U.out.trans (hbk.mono BV_U.out.size))
            rw [hb_u59, hw_u59] at hnew
            rw [hb_u59, hw_u59]
            have HA_u59 := Lib.hid hnew
            have hb11 := hbl
            clear hw_u59 hb_u59 hbk hnew
            refine hK.out _ _ (HCS.out _ BV_u59.out) (fun hHeld_u59 => ?_)
            clear hK K
            try simp only [List.setIfInBounds_toArray, List.set_cons_zero, List.set_cons_succ]
            refine walkG_some [3, 8] (by kernel_rfl) (by decide) ⟨?_, ?_, trivial⟩
            · refine ⟨by decide, _, rfl, fun K hK => ?_⟩
              go_simp
              have hmade := World.ownsRow_made (e := 9) (size := 1) u59 #[] 0 BV_u59.out.size (Nat.zero_le _) rfl
              obtain ⟨b_u60, hb_u60⟩ : ∃ b, u59.heap.size = b := ⟨_, rfl⟩
              obtain ⟨u60, hw_u60⟩ : ∃ X, u59.alloc (.cells #[] 9) = X := ⟨_, rfl⟩
              have hbk : Below u59.heap.size u59 u60 := by rw [← hw_u60]; exact (Below.refl _ _).alloc (Nat.le_refl _) _
              have BV_u60 := Lib.hid (BV_u59.out.trans (hbk.mono BV_u59.out.size))
              rw [hw_u60, hb_u60] at hmade
              have HO_u60 := Lib.hid hmade
              rw [hb_u60, hw_u60]
              have HA_u60 := Lib.hid (blk_below HA_u59.out hbk)
              clear hw_u60 hb_u60 hbk hmade
              refine hK.out _ _ (HCS.out _ BV_u60.out) (fun hHeld_u60 => ?_)
              clear hK K
              try simp only [List.setIfInBounds_toArray, List.set_cons_zero, List.set_cons_succ]
              refine walkG_some [6, 8] (by kernel_rfl) (by decide) ⟨?_, ?_, trivial⟩
              · refine ⟨by decide, _, rfl, fun K hK => ?_⟩
                refine Eq.mpr (if_pos (by kernel_rfl)) ?_
                refine wp_append_own _ _ _ 59 (by rfl) V2.heap.size 9 i0 (.string ByteArray.empty) 1 16 Try.underlying59 hi0 hz0 hz1 hz2 rfl (by decide) (.slice (some ⟨b_u60, 0, none⟩) 0 0) 0 [] (by rfl) HO_u60.out ⟨g, 0, none⟩ n cap (strsV zs) (by rfl) (by rw [strsV_len, HN.out, Nat.mul_one]) (HNEWS.out _ BV_u60.out) HONE.out (by unfold maxLen; omega) (by omega) BV_u60.out.size ?_
                intro v6 u61 hown6 hgr6 hnil6
                rw [Nat.zero_add, List.nil_append] at hown6
                obtain ⟨g_u61, c_u61, rfl⟩ : ∃ g1 c1, v6 = .slice (some ⟨g1, 0, none⟩) n c1 := by
                  rcases hown6.2 with ⟨rfl, _⟩ | ⟨g1, c1, _, rfl, _⟩
                  · have h := (hnil6.1 rfl).1
                    cases h
                  · exact ⟨g1, c1, rfl⟩
                have BV_u61 : Hid (Below V2.heap.size V2 u61) := Lib.hid (BV_u60.out.grown hgr6 BV_u60.out.size fun j e => by cases e; exact own_ge HO_u60.out b_u60 rfl)
                have HO_u61 := Lib.hid hown6
                have HA_u61 := Lib.hid (blk_grown HA_u60.out hgr6 (ownT_ne HO_u60.out HA_u60.out (by decide)))
                clear hown6 hgr6 hnil6
                refine hK.out _ _ (HCS.out _ BV_u61.out) (fun hHeld_u61 => ?_)
                clear hK K
                try simp only [List.setIfInBounds_toArray, List.set_cons_zero, List.set_cons_succ]
                refine walkG_some [8] (by kernel_rfl) (by decide) ⟨?_, trivial⟩
                · refine ⟨by decide, _, rfl, fun K hK => ?_⟩
                  go_simp
                  have hnew := World.alloc_heap_new u61 (.cells #[.string x] 9)
                  obtain ⟨b_u62, hb_u62⟩ : ∃ b, u61.heap.size = b := ⟨_, rfl⟩
                  obtain ⟨u62, hw_u62⟩ : ∃ X, u61.alloc (.cells #[.string x] 9) = X := ⟨_, rfl⟩
                  have hbk : Below u61.heap.size u61 u62 := by rw [← hw_u62]; exact (Below.refl _ _).alloc (Nat.le_refl _) _
                  have hbl : V2.heap.size ≤ b_u62 := by rw [← hb_u62]; exact BV_u61.out.size
                  have BV_u62 := Lib.hid (BV_u61.out.trans (hbk.mono BV_u61.out.size))
                  rw [hb_u62, hw_u62] at hnew
                  rw [hb_u62, hw_u62]
                  have HO_u62 := Lib.hid (ownsRow_past HO_u61.out hbk)
                  have HA_u62 := Lib.hid (blk_below HA_u61.out hbk)
                  have HE_u62 := Lib.hid hnew
                  clear hbl
                  clear hw_u62 hb_u62 hbk hnew
                  refine hK.out _ _ (HCS.out _ BV_u62.out) (fun hHeld_u62 => ?_)
                  clear hK K
                  try simp only [List.setIfInBounds_toArray, List.set_cons_zero, List.set_cons_succ]
                  refine walkG_some [9] (by kernel_rfl) (by decide) ⟨?_, trivial⟩
                  · refine ⟨by decide, _, rfl, fun K hK => ?_⟩
                    refine Eq.mpr (if_pos (by kernel_rfl)) ?_
                    refine wp_append_own _ _ _ 59 (by rfl) V2.heap.size 9 i0 (.string ByteArray.empty) 1 16 Try.underlying59 hi0 hz0 hz1 hz2 rfl (by decide) (.slice (some ⟨g_u61, 0, none⟩) n c_u61) n (strsV zs) (by rfl) HO_u62.out ⟨b_u62, 0, none⟩ 1 1 [.string x] (by rfl) rfl (World.news_of_block (cs := #[.string x]) (t := 9) (fr := (0, 0)) HE_u62.out) (fun u hu => by simp at hu; subst hu; rfl) (by unfold maxLen; omega) (by omega) BV_u62.out.size ?_
                    intro v6 u63 hown6 hgr6 _
                    obtain ⟨g_u63, c_u63, rfl⟩ := ownsRow_succ hown6
                    have BV_u63 : Hid (Below V2.heap.size V2 u63) := Lib.hid (BV_u62.out.grown hgr6 BV_u62.out.size fun j e => by cases e; exact own_ge HO_u62.out g_u61 rfl)
                    have HO_u63 := Lib.hid hown6
                    have HA_u63 := Lib.hid (blk_grown HA_u62.out hgr6 (ownT_ne HO_u62.out HA_u62.out (by decide)))
                    clear hown6 hgr6
                    refine hK.out _ _ (HCS.out _ BV_u63.out) (fun hHeld_u63 => ?_)
                    clear hK K
                    try simp only [List.setIfInBounds_toArray, List.set_cons_zero, List.set_cons_succ]
                    refine walkG_take (i := 10) (v := ?v10_64) rfl (by kernel_rfl) (by kernel_rfl) (by kernel_rfl) (fun _ _ _ h => h) (Or.inl ⟨by rfl, ?hy10_64⟩) (by assumption) ?rest10_64
                    case hy10_64 =>
                      intro w hSw
                      (try dsimp only at hSw)
                      go_simp
                      (try with_reducible rfl)
                    try simp only [Act.put, List.setIfInBounds_toArray, List.set_cons_zero, List.set_cons_succ]
                    obtain ⟨_, y0, y1, y2, y3⟩ := boxZ_of_block HA_u63.out
                    refine walkG_last rfl (by kernel_rfl) (by kernel_rfl) (fun K hK => ?_) _
                    go_simp
                    refine hK.out _ _ ?_
                    clear hK K
                    go_wp2_with fail
                    go_meet
                    exact gAtL BV_u63.out (by rw [HSV.out]; exact HO_u63.out) HZL.out HSMZ.out HA_u63.out hb11
              · refine ⟨by decide, _, rfl, fun K hK => ?_⟩
                go_simp
                have hnew := World.alloc_heap_new u60 (.cells #[.string x] 9)
                obtain ⟨b_u65, hb_u65⟩ : ∃ b, u60.heap.size = b := ⟨_, rfl⟩
                obtain ⟨u65, hw_u65⟩ : ∃ X, u60.alloc (.cells #[.string x] 9) = X := ⟨_, rfl⟩
                have hbk : Below u60.heap.size u60 u65 := by rw [← hw_u65]; exact (Below.refl _ _).alloc (Nat.le_refl _) _
                have hbl : V2.heap.size ≤ b_u65 := by rw [← hb_u65]; exact BV_u60.out.size
                have BV_u65 := Lib.hid (BV_u60.out.trans (hbk.mono BV_u60.out.size))
                rw [hb_u65, hw_u65] at hnew
                rw [hb_u65, hw_u65]
                have HO_u65 := Lib.hid (ownsRow_past HO_u60.out hbk)
                have HA_u65 := Lib.hid (blk_below HA_u60.out hbk)
                have HE_u65 := Lib.hid hnew
                clear hbl
                clear hw_u65 hb_u65 hbk hnew
                refine hK.out _ _ (HCS.out _ BV_u65.out) (fun hHeld_u65 => ?_)
                clear hK K
                try simp only [List.setIfInBounds_toArray, List.set_cons_zero, List.set_cons_succ]
                refine walkG_some [6] (by kernel_rfl) (by decide) ⟨?_, trivial⟩
                · refine ⟨by decide, _, rfl, fun K hK => ?_⟩
                  refine Eq.mpr (if_pos (by kernel_rfl)) ?_
                  refine wp_append_own _ _ _ 59 (by rfl) V2.heap.size 9 i0 (.string ByteArray.empty) 1 16 Try.underlying59 hi0 hz0 hz1 hz2 rfl (by decide) (.slice (some ⟨b_u60, 0, none⟩) 0 0) 0 [] (by rfl) HO_u65.out ⟨g, 0, none⟩ n cap (strsV zs) (by rfl) (by rw [strsV_len, HN.out, Nat.mul_one]) (HNEWS.out _ BV_u65.out) HONE.out (by unfold maxLen; omega) (by omega) BV_u65.out.size ?_
                  intro v6 u66 hown6 hgr6 hnil6
                  rw [Nat.zero_add, List.nil_append] at hown6
                  obtain ⟨g_u66, c_u66, rfl⟩ : ∃ g1 c1, v6 = .slice (some ⟨g1, 0, none⟩) n c1 := by
                    rcases hown6.2 with ⟨rfl, _⟩ | ⟨g1, c1, _, rfl, _⟩
                    · have h := (hnil6.1 rfl).1
                      cases h
                    · exact ⟨g1, c1, rfl⟩
                  have BV_u66 : Hid (Below V2.heap.size V2 u66) := Lib.hid (BV_u65.out.grown hgr6 BV_u65.out.size fun j e => by cases e; exact own_ge HO_u65.out b_u60 rfl)
                  have HO_u66 := Lib.hid hown6
                  have HE_u66 := Lib.hid (blk_grown HE_u65.out hgr6 (own0_ne HO_u65.out HE_u65.out))
                  have HA_u66 := Lib.hid (blk_grown HA_u65.out hgr6 (ownT_ne HO_u65.out HA_u65.out (by decide)))
                  clear hown6 hgr6 hnil6
                  refine hK.out _ _ (HCS.out _ BV_u66.out) (fun hHeld_u66 => ?_)
                  clear hK K
                  try simp only [List.setIfInBounds_toArray, List.set_cons_zero, List.set_cons_succ]
                  refine walkG_some [9] (by kernel_rfl) (by decide) ⟨?_, trivial⟩
                  · refine ⟨by decide, _, rfl, fun K hK => ?_⟩
                    refine Eq.mpr (if_pos (by kernel_rfl)) ?_
                    refine wp_append_own _ _ _ 59 (by rfl) V2.heap.size 9 i0 (.string ByteArray.empty) 1 16 Try.underlying59 hi0 hz0 hz1 hz2 rfl (by decide) (.slice (some ⟨g_u66, 0, none⟩) n c_u66) n (strsV zs) (by rfl) HO_u66.out ⟨b_u65, 0, none⟩ 1 1 [.string x] (by rfl) rfl (World.news_of_block (cs := #[.string x]) (t := 9) (fr := (0, 0)) HE_u66.out) (fun u hu => by simp at hu; subst hu; rfl) (by unfold maxLen; omega) (by omega) BV_u66.out.size ?_
                    intro v6 u67 hown6 hgr6 _
                    obtain ⟨g_u67, c_u67, rfl⟩ := ownsRow_succ hown6
                    have BV_u67 : Hid (Below V2.heap.size V2 u67) := Lib.hid (BV_u66.out.grown hgr6 BV_u66.out.size fun j e => by cases e; exact own_ge HO_u66.out g_u66 rfl)
                    have HO_u67 := Lib.hid hown6
                    have HA_u67 := Lib.hid (blk_grown HA_u66.out hgr6 (ownT_ne HO_u66.out HA_u66.out (by decide)))
                    clear hown6 hgr6
                    refine hK.out _ _ (HCS.out _ BV_u67.out) (fun hHeld_u67 => ?_)
                    clear hK K
                    try simp only [List.setIfInBounds_toArray, List.set_cons_zero, List.set_cons_succ]
                    refine walkG_take (i := 10) (v := ?v10_68) rfl (by kernel_rfl) (by kernel_rfl) (by kernel_rfl) (fun _ _ _ h => h) (Or.inl ⟨by rfl, ?hy10_68⟩) (by assumption) ?rest10_68
                    case hy10_68 =>
                      intro w hSw
                      (try dsimp only at hSw)
                      go_simp
                      (try with_reducible rfl)
                    try simp only [Act.put, List.setIfInBounds_toArray, List.set_cons_zero, List.set_cons_succ]
                    obtain ⟨_, y0, y1, y2, y3⟩ := boxZ_of_block HA_u67.out
                    refine walkG_last rfl (by kernel_rfl) (by kernel_rfl) (fun K hK => ?_) _
                    go_simp
                    refine hK.out _ _ ?_
                    clear hK K
                    go_wp2_with fail
                    go_meet
                    exact gAtL BV_u67.out (by rw [HSV.out]; exact HO_u67.out) HZL.out HSMZ.out HA_u67.out hb11
            · refine ⟨by decide, _, rfl, fun K hK => ?_⟩
              go_simp
              have hnew := World.alloc_heap_new u59 (.cells #[.string x] 9)
              obtain ⟨b_u69, hb_u69⟩ : ∃ b, u59.heap.size = b := ⟨_, rfl⟩
              obtain ⟨u69, hw_u69⟩ : ∃ X, u59.alloc (.cells #[.string x] 9) = X := ⟨_, rfl⟩
              have hbk : Below u59.heap.size u59 u69 := by rw [← hw_u69]; exact (Below.refl _ _).alloc (Nat.le_refl _) _
              have hbl : V2.heap.size ≤ b_u69 := by rw [← hb_u69]; exact BV_u59.out.size
              have BV_u69 := Lib.hid (BV_u59.out.trans (hbk.mono BV_u59.out.size))
              rw [hb_u69, hw_u69] at hnew
              rw [hb_u69, hw_u69]
              have HA_u69 := Lib.hid (blk_below HA_u59.out hbk)
              have HE_u69 := Lib.hid hnew
              clear hbl
              clear hw_u69 hb_u69 hbk hnew
              refine hK.out _ _ (HCS.out _ BV_u69.out) (fun hHeld_u69 => ?_)
              clear hK K
              try simp only [List.setIfInBounds_toArray, List.set_cons_zero, List.set_cons_succ]
              refine walkG_some [3] (by kernel_rfl) (by decide) ⟨?_, trivial⟩
              · refine ⟨by decide, _, rfl, fun K hK => ?_⟩
                go_simp
                have hmade := World.ownsRow_made (e := 9) (size := 1) u69 #[] 0 BV_u69.out.size (Nat.zero_le _) rfl
                obtain ⟨b_u70, hb_u70⟩ : ∃ b, u69.heap.size = b := ⟨_, rfl⟩
                obtain ⟨u70, hw_u70⟩ : ∃ X, u69.alloc (.cells #[] 9) = X := ⟨_, rfl⟩
                have hbk : Below u69.heap.size u69 u70 := by rw [← hw_u70]; exact (Below.refl _ _).alloc (Nat.le_refl _) _
                have BV_u70 := Lib.hid (BV_u69.out.trans (hbk.mono BV_u69.out.size))
                rw [hw_u70, hb_u70] at hmade
                have HO_u70 := Lib.hid hmade
                rw [hb_u70, hw_u70]
                have HE_u70 := Lib.hid (blk_below HE_u69.out hbk)
                have HA_u70 := Lib.hid (blk_below HA_u69.out hbk)
                clear hw_u70 hb_u70 hbk hmade
                refine hK.out _ _ (HCS.out _ BV_u70.out) (fun hHeld_u70 => ?_)
                clear hK K
                try simp only [List.setIfInBounds_toArray, List.set_cons_zero, List.set_cons_succ]
                refine walkG_some [6] (by kernel_rfl) (by decide) ⟨?_, trivial⟩
                · refine ⟨by decide, _, rfl, fun K hK => ?_⟩
                  refine Eq.mpr (if_pos (by kernel_rfl)) ?_
                  refine wp_append_own _ _ _ 59 (by rfl) V2.heap.size 9 i0 (.string ByteArray.empty) 1 16 Try.underlying59 hi0 hz0 hz1 hz2 rfl (by decide) (.slice (some ⟨b_u70, 0, none⟩) 0 0) 0 [] (by rfl) HO_u70.out ⟨g, 0, none⟩ n cap (strsV zs) (by rfl) (by rw [strsV_len, HN.out, Nat.mul_one]) (HNEWS.out _ BV_u70.out) HONE.out (by unfold maxLen; omega) (by omega) BV_u70.out.size ?_
                  intro v6 u71 hown6 hgr6 hnil6
                  rw [Nat.zero_add, List.nil_append] at hown6
                  obtain ⟨g_u71, c_u71, rfl⟩ : ∃ g1 c1, v6 = .slice (some ⟨g1, 0, none⟩) n c1 := by
                    rcases hown6.2 with ⟨rfl, _⟩ | ⟨g1, c1, _, rfl, _⟩
                    · have h := (hnil6.1 rfl).1
                      cases h
                    · exact ⟨g1, c1, rfl⟩
                  have BV_u71 : Hid (Below V2.heap.size V2 u71) := Lib.hid (BV_u70.out.grown hgr6 BV_u70.out.size fun j e => by cases e; exact own_ge HO_u70.out b_u70 rfl)
                  have HO_u71 := Lib.hid hown6
                  have HE_u71 := Lib.hid (blk_grown HE_u70.out hgr6 (own0_ne HO_u70.out HE_u70.out))
                  have HA_u71 := Lib.hid (blk_grown HA_u70.out hgr6 (ownT_ne HO_u70.out HA_u70.out (by decide)))
                  clear hown6 hgr6 hnil6
                  refine hK.out _ _ (HCS.out _ BV_u71.out) (fun hHeld_u71 => ?_)
                  clear hK K
                  try simp only [List.setIfInBounds_toArray, List.set_cons_zero, List.set_cons_succ]
                  refine walkG_some [9] (by kernel_rfl) (by decide) ⟨?_, trivial⟩
                  · refine ⟨by decide, _, rfl, fun K hK => ?_⟩
                    refine Eq.mpr (if_pos (by kernel_rfl)) ?_
                    refine wp_append_own _ _ _ 59 (by rfl) V2.heap.size 9 i0 (.string ByteArray.empty) 1 16 Try.underlying59 hi0 hz0 hz1 hz2 rfl (by decide) (.slice (some ⟨g_u71, 0, none⟩) n c_u71) n (strsV zs) (by rfl) HO_u71.out ⟨b_u69, 0, none⟩ 1 1 [.string x] (by rfl) rfl (World.news_of_block (cs := #[.string x]) (t := 9) (fr := (0, 0)) HE_u71.out) (fun u hu => by simp at hu; subst hu; rfl) (by unfold maxLen; omega) (by omega) BV_u71.out.size ?_
                    intro v6 u72 hown6 hgr6 _
                    obtain ⟨g_u72, c_u72, rfl⟩ := ownsRow_succ hown6
                    have BV_u72 : Hid (Below V2.heap.size V2 u72) := Lib.hid (BV_u71.out.grown hgr6 BV_u71.out.size fun j e => by cases e; exact own_ge HO_u71.out g_u71 rfl)
                    have HO_u72 := Lib.hid hown6
                    have HA_u72 := Lib.hid (blk_grown HA_u71.out hgr6 (ownT_ne HO_u71.out HA_u71.out (by decide)))
                    clear hown6 hgr6
                    refine hK.out _ _ (HCS.out _ BV_u72.out) (fun hHeld_u72 => ?_)
                    clear hK K
                    try simp only [List.setIfInBounds_toArray, List.set_cons_zero, List.set_cons_succ]
                    refine walkG_take (i := 10) (v := ?v10_73) rfl (by kernel_rfl) (by kernel_rfl) (by kernel_rfl) (fun _ _ _ h => h) (Or.inl ⟨by rfl, ?hy10_73⟩) (by assumption) ?rest10_73
                    case hy10_73 =>
                      intro w hSw
                      (try dsimp only at hSw)
                      go_simp
                      (try with_reducible rfl)
                    try simp only [Act.put, List.setIfInBounds_toArray, List.set_cons_zero, List.set_cons_succ]
                    obtain ⟨_, y0, y1, y2, y3⟩ := boxZ_of_block HA_u72.out
                    refine walkG_last rfl (by kernel_rfl) (by kernel_rfl) (fun K hK => ?_) _
                    go_simp
                    refine hK.out _ _ ?_
                    clear hK K
                    go_wp2_with fail
                    go_meet
                    exact gAtL BV_u72.out (by rw [HSV.out]; exact HO_u72.out) HZL.out HSMZ.out HA_u72.out hb11
        case rest =>
          obtain ⟨j, a, cq, hs1, hbox, hjl, hgr, hne, hb1⟩ := hcut
          subst hs1
          obtain ⟨W1, hwq⟩ : ∃ X, wc = X := ⟨_, rfl⟩
          rw [hwq] at hbox hgr hb1 ⊢
          clear hwq
          obtain ⟨a2, c2, he2, hst⟩ := hgr.strs
          simp only [Value.slice.injEq] at he2
          obtain ⟨rfl, hq2, rfl⟩ := he2
          have HGI2 := Lib.hid (sGroupIn_any L1 (some ⟨a, 0, none⟩) cq (n + 1) (zs ++ [x]) b W1 ⟨HZL.out, by unfold maxLen; omega, hst⟩ HB.out)
          have HGR := Lib.hid hgr
          have HX := Lib.hid hbox
          have HB4 := Lib.hid (HB3.out.trans (hb1.mono HB3.out.size))
          clear k0 k1 p0 p1 hV2
          obtain ⟨_, q0, q1⟩ := hbox
          clear hgr hb1 hst hq2
          go_wp2_with fail
          refine HGI2.out.mono ?_
          rintro e w9 ⟨rfl, hb9⟩
          have HB9 := Lib.hid (HB4.out.trans (hb9.mono HB4.out.size))
          have HGR9 := Lib.hid (HGR.out.below hb9)
          clear q0 q1
          obtain ⟨_, q0, q1⟩ := HX.out.below hb9
          obtain ⟨_, d0, d1, f0, f1⟩ := HC.out w9 HB9.out
          clear hb9
          cases b with
          | false =>
            go_wp2
            refine bodyPost_ret (v := .tuple #[plV 0 (.slice none 0 0), .bool false]) ?_ rfl (HNO.out w9 HB9.out HBE.out)
            simp [results, Try.results85, go_sem, d0, d1, plV]
          | true =>
            go_wp2
            have hfin : ToldG w (grownB low zs s) ⟨low + 1, grownZ low zs s⟩ (.returned (.tuple #[plV L1 (.slice (some ⟨a, 0, none⟩) (n + 1) cq), .bool true])) ((w9.setCell ⟨w.heap.size + 1, 0, none⟩ (.int .i64 L1)).setCell ⟨w.heap.size + 1, 1, none⟩ (.slice (some ⟨a, 0, none⟩) (n + 1) cq)) := by
              rw [HBE.out, HZ.out, HL1.out]
              have h2 := HSZ.out
              have h3 := HB3.out.size
              have hk : ∀ k, (Value.slice (some ⟨a, 0, none⟩) (n + 1) cq).ownBlock = some k → w.heap.size + 1 < k := fun k e => by have h1 := own_ge HGR9.out.1 k e; omega
              exact ⟨⟨_, rfl, ((HGR9.out.mono (by omega)).set hk).set hk⟩, ((HBW.out.trans (HB9.out.mono HBW.out.size)).setCell (p := ⟨w.heap.size + 1, 0, none⟩) (by show w.heap.size ≤ w.heap.size + 1; omega) _).setCell (p := ⟨w.heap.size + 1, 1, none⟩) (by show w.heap.size ≤ w.heap.size + 1; omega) _⟩
            refine bodyPost_ret (v := .tuple #[plV L1 (.slice (some ⟨a, 0, none⟩) (n + 1) cq), .bool true]) ?_ rfl hfin
            simp [results, Try.results85, go_sem, d0, d1, plV]

end Go.Proofs.Ytbbkpaledlbcmaa

/- How GroupGrow and the model answer, for the law. -/

namespace Go.Proofs.Ytbbkpaledlbcmaa
open Go.RowKit

section
variable {low : Int} {a : Option Addr} {g n c : Nat} {zs : List ByteArray} {b : Bool} {w : World} {p : Gp} {pl : Int} {pc : List ByteArray} {s : ByteArray}
theorem grownG_fit (_ : IsStrs w a n zs) (_ : grownB low zs s = b) (hp : grownP low zs s = p) : p.cs.length ≤ 200 := by
  unfold grownP at hp
  refine doneG_fit (fun h => ?_) hp
  unfold grownB at h
  simp only [Bool.and_eq_true] at h
  have h2 := (groupB_iff.1 h.2.2.2).2.1
  show (grownZ low zs s).length ≤ 200
  omega
theorem sGroupGrow_law (hs : IsStrs w (some ⟨g, 0, none⟩) n zs) (hz : s.size ≤ maxLen) (hb : grownB low zs s = b) (hp : grownP low zs s = ⟨pl, pc⟩) :
    Calls Try.prog 85 #[plV low (.slice (some ⟨g, 0, none⟩) n c), .string s] w fun e w' => (∃ v, e = .returned (.tuple #[plV pl v, .bool b]) ∧ GRow w.heap.size w' v pc) ∧ Below w.heap.size w w' := by
  refine (sGroupGrow_any low g c n zs s w hs hz).mono fun e w' h => ?_
  unfold grownP at hp
  unfold ToldG at h
  rw [hp, hb] at h
  exact h
theorem iGroupGrow_law (hs : IsStrs w (some ⟨g, 0, none⟩) n zs) (hz : s.size ≤ maxLen) (hb : grownB low zs s = b) (hp : grownP low zs s = ⟨pl, pc⟩) :
    Calls Try.prog 86 #[plV low (.slice (some ⟨g, 0, none⟩) n c), .string s] w fun e w' => (∃ v, e = .returned (.tuple #[plV pl v, .bool b]) ∧ GRow w.heap.size w' v pc) ∧ Below w.heap.size w w' := by
  refine (iGroupGrow_any low g c n zs s w hs hz).mono fun e w' h => ?_
  unfold grownP at hp
  unfold ToldG at h
  rw [hp, hb] at h
  exact h
end

end Go.Proofs.Ytbbkpaledlbcmaa

/- The iterator over the letters of a word's inverse: a loop over slices.Backward that hands each letter's inverse on. -/
import Derived.Test.YtaaeiogdhmiaaaaIh
namespace Go.Proofs.Ytaaeiogdhmiaaaa
open Go.RowKit Go.Shelf

attribute [local go_sem] Oper.semAt_some

abbrev YT : TypeId := 124
abbrev WT : TypeId := 87

set_option maxRecDepth 100000 in
set_option maxHeartbeats 1000000 in
theorem turned_seq (L : List UInt8) (sv : Value) (w : World) (Bs n₀ : Nat) (hBs : Bs < n₀) (hn₀ : n₀ ≤ w.heap.size) (hc : w.cell? ⟨Bs, 0, none⟩ = some sv) (hw : IsWord n₀ w sv L) :
    SeqO n₀ w 137 #[.pointer (some ⟨Bs, 0, none⟩)] (L.reverse.map invB) := fun n h8 l B J W hW hnB hB hJ hY h0 => by
  have hcW : W.cell? ⟨Bs, 0, none⟩ = some sv := (hW.cell (p := ⟨Bs, 0, none⟩) (by show Bs < w.heap.size; omega)).trans hc
  have hwW : IsWord n₀ W sv L := hw.below (hW.mono hn₀)
  obtain ⟨g, off, cap, rfl, hg, hL, hcc⟩ := hwW
  obtain ⟨len, hlen⟩ : ∃ len, L.length = len := ⟨_, rfl⟩
  rw [hlen] at hcW hL
  have hBW : Bs < W.heap.size := by have := hW.size; omega
  have hcY : (W.alloc (.cells #[.func (.yield l) #[] #[]] YT)).cell? ⟨Bs, 0, none⟩ = some (.slice (some ⟨g, off, none⟩) len cap) := (World.cell?_alloc_past _ _ _ hBW).trans hcW
  have HLen := Lib.hid hlen
  have HW0 := Lib.hid hw
  clear hw
  clear hcc hc hlen
  refine callsIn_of_wp_marks Try.func137 rfl trivial ?_ rfl
  simp only [Try.ntmps137, List.size_toArray, List.length_cons, List.length_nil, Nat.reduceAdd, Nat.reduceSub, Array.replicate_succ, Array.replicate_zero, List.push_toArray, List.append_toArray, List.nil_append, List.cons_append]
  gi_wp2_with fail
  refine ⟨trivial, fun _ => by omega, ?_⟩
  refine (callsIn_wide.2 (backward_any _ _ _ _)).mono ?_
  rintro e w1 ⟨rfl, rfl⟩
  gi_wp2_with fail
  have hW1 : Below W.heap.size W ((W.alloc (.cells #[.func (.yield l) #[] #[]] YT)).alloc (.cells #[.slice (some ⟨g, off, none⟩) len cap] WT)) := ((Below.refl _ W).alloc (Nat.le_refl _) _).alloc (by simp) _
  have hJ1 : J [] ((W.alloc (.cells #[.func (.yield l) #[] #[]] YT)).alloc (.cells #[.slice (some ⟨g, off, none⟩) len cap] WT)) := hJ.alloc _ (hJ.alloc _ h0)
  have bY := (Boxed.new W YT (.func (.yield l) #[] #[])).alloc (.cells #[.slice (some ⟨g, off, none⟩) len cap] WT)
  have bS := Boxed.new (W.alloc (.cells #[.func (.yield l) #[] #[]] YT)) WT (.slice (some ⟨g, off, none⟩) len cap)
  rw [World.size_alloc] at bS
  have hsz : ((W.alloc (.cells #[.func (.yield l) #[] #[]] YT)).alloc (.cells #[.slice (some ⟨g, off, none⟩) len cap] WT)).heap.size = W.heap.size + 2 := by simp
  generalize ((W.alloc (.cells #[.func (.yield l) #[] #[]] YT)).alloc (.cells #[.slice (some ⟨g, off, none⟩) len cap] WT)) = V at hW1 hJ1 bY bS hsz ⊢
  have hnW : n₀ ≤ W.heap.size := Nat.le_trans hn₀ hW.size
  have hwV : IsWord n₀ V (.slice (some ⟨g, off, none⟩) len cap) L := by
    have := (HW0.out.below (hW.mono hn₀)).below (hW1.mono hnW)
    rw [HLen.out] at this
    exact this
  refine range_law (by omega) (gf := 145) (lb := #[.pointer (some ⟨W.heap.size + 1, 0, none⟩)]) rfl (enters_of Try.func145 (by kernel_rfl) rfl)
    (encs := encI) (fun _ => rfl) (fun _ A C => Below n₀ A C ∧ KeepT B A C) (fun h k => ⟨h.1.trans k.1, h.2.trans k.2⟩)
    (fun N X k o o' _ hk hX ho hwk => ⟨belowK_b (w := V) (by omega) X k o o' hk hX ho hwk, KeepT.putObj _ hX ho⟩) (fun h => h) (xs := bk L 0)
    (fun l' J' V' hV' _ _ hY' h0' => backward1_in (n - 1) (by omega) l' (W.heap.size + 1) n₀ _ (fun h k => ⟨h.1.trans k.1, h.2.trans k.2⟩) (fun A => ⟨Below.refl _ _, KeepT.refl _ _⟩) L (.slice (some ⟨g, off, none⟩) len cap) J' hY' V'
      (fun W' hk => (hk.2.boxed ((hV'.block _ (by omega)).trans bS) (by decide) (by omega)).cell) (fun W' hk => (hwV.below (hV'.mono (by omega))).below hk.1) h0')
    (fun pre X => J (pre.map fun p => invB p.2) X ∧ Boxed X W.heap.size YT (.func (.yield l) #[] #[]) ∧ V.heap.size ≤ X.heap.size)
    (fun s X Y row hs hgr hr => ⟨hJ (s.map fun p => invB p.2) X Y row hs.1 hgr (fun r e => by obtain ⟨q1, q2⟩ := hr r e; exact ⟨by omega, q2⟩), boxed_own W.heap.size _ (fun _ : Unit => .func (.yield l) #[] #[]) () X Y row hs.2.1 hgr (fun r e => (hr r e).2), Nat.le_trans hs.2.2 hgr.size⟩)
    ⟨hJ1, bY, Nat.le_refl _⟩
    (fun x => { tmps := #[.func (.yield l) #[] #[], .pointer (some ⟨Bs, 0, none⟩), .pointer (some ⟨W.heap.size, 0, none⟩), undef, .int .u8 (x.2.toNat : Int), .slice (some ⟨g, off, none⟩) len cap, .func (.func 145) #[] #[.pointer (some ⟨W.heap.size + 1, 0, none⟩)], .int .i64 (x.1 : Int), .int .u8 (x.2.toNat : Int), undef, undef, undef, undef, undef], defers := [] }) ?assign ?body ?done
  case assign =>
    intro l x W K hK
    gi_wp2
    exact hK
  case body =>
    rintro l' pre x X ⟨hj, hbx, hsX⟩ hpre
    have hpm : (pre.map fun p => invB p.2) ++ [invB x.2] <+: L.reverse.map invB := by
      have := hpre.map (fun p : Nat × UInt8 => invB p.2)
      rw [bk_snd, List.map_append] at this
      exact this
    have hcy := hbx.cell
    have hd : 1 ≤ n - 1 - 1 := by omega
    have hmx : Try.prog.follows .mixedOrders = true := by kernel_rfl
    have hjd : J (pre.map fun p => invB p.2) X.drew := hJ _ X X.drew none hj ⟨rfl, rfl, rfl, Nat.le_refl _, fun _ _ _ => rfl⟩ (fun r e => by cases e)
    obtain ⟨fn, tmps, asg, bd, hy, hR0⟩ := hY (pre.map fun p => invB p.2) (invB x.2) X.drew hjd hpm
    have hR := Lib.hid (roundIn_inRound (l' := l') (roundIn_any (m' := n - 1 - 1 - 1) hR0))
    have HJ := Lib.hid hj
    clear hR0 hj hjd hpm hpre
    gi_wp2
    gi_region_with_o (first
      | (refine ⟨trivial, ?_⟩; gi_at_call 75; refine (CallsIn.inRound l' (callsIn_wide.2 (inverse_any _ _))).mono ?_; rintro e w' ⟨rfl, rfl⟩)
      | (refine hR.out.mono ?_; rintro e W3 ⟨rfl, hJ3, hk3⟩))
    all_goals gi_wp2
    all_goals
      have hkf : KeepsFrom W.heap.size X W3 := ⟨hk3.2.2.size, hk3.2.2.same⟩
      have hkt : KeepT B X W3 := hk3.2.1
      refine ⟨keepsFrom_mono hkf (by omega), ⟨(Below.refl n₀ X).drew.trans hk3.1, hkt⟩, ?_, hkt.boxed hbx (by decide) (by omega), Nat.le_trans hsX hkf.size⟩
      rw [List.map_append]
      exact hJ3
  case done =>
    rintro D X hD ⟨hj, _, _⟩ hK
    rw [bk_snd] at hj
    gi_wp2
    refine ⟨by simp, .inl ⟨_, _, rfl, run_takeDeferred hK, ?_⟩⟩
    exact ⟨_, results_none rfl _ _ _, ⟨_, rfl⟩, hJ.putObj _ hj (by omega) hK rfl⟩

end Go.Proofs.Ytaaeiogdhmiaaaa

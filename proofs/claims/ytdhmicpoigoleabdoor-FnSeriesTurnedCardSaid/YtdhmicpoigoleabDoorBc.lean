/- What the laws' proofs stand on, part 3 of 3. -/
import Derived.IntWalk
import Derived.RangeFuncBox
import Derived.Laws.BitsAllLaws
import Derived.Deep.QuietTactic
import Derived.BigQuiet
import Derived.ChangeSlices
import Derived.Deep.AppendLies
import Derived.Laws.CopyOwn
import Derived.Laws.AppendOwnNone
import Derived.WalkLawsBesides
import Derived.Lib.Strings
import Derived.Test.YtdhmicpoigoleabDoorBa
import Derived.Test.YtdhmicpoigoleabDoorBb

/- The contracts of the model's reader of drawn inputs: 'l6Open', 'pick', 'of'. -/

namespace Go.Proofs.YtdhmicpoigoleabDoor
open Go.RowKit Go.Shelf

theorem i64_xor (a b : Nat) (ha : a < 2 ^ 63) (hb : b < 2 ^ 63) : bits .xor .i64 (a : Int) (b : Int) = ((a ^^^ b : Nat) : Int) := by
  show IntKind.i64.wrap ((BitVec.ofInt 64 (a : Int) ^^^ BitVec.ofInt 64 (b : Int)).toNat : Int) = _
  rw [BitVec.toNat_xor, ofInt_u64 a (by omega), ofInt_u64 b (by omega)]
  have : a ^^^ b < 2 ^ 63 := Nat.xor_lt_two_pow ha hb
  exact IntWalk.i64_in _ (by omega)

abbrev RdT : TypeId := 56
/-- A slice of bytes, as numbers, in a block below base. -/
structure BsAt (base : Nat) (w : World) (a : Option Addr) (n cap : Nat) (zs : List Int) : Prop where
  len : zs.length = n
  fit : n ≤ cap ∧ cap ≤ maxLen
  at_ : 0 < n → ∃ x, a = some x ∧ x.block < base ∧ ∀ j (h : j < zs.length), w.cell? (x.add j) = some (.int .u8 zs[j])
  byte : ∀ z ∈ zs, 0 ≤ z ∧ z ≤ 255
theorem BsAt.below {base : Nat} {w w' : World} {a : Option Addr} {n cap : Nat} {zs : List Int} (h : BsAt base w a n cap zs) (hb : Below base w w') : BsAt base w' a n cap zs :=
  ⟨h.len, h.fit, fun h0 => by obtain ⟨x, e, hx, hc⟩ := h.at_ h0; exact ⟨x, e, hx, fun j hj => (hb.cell (p := x.add j) (by show (x.add j).block < _; rw [addr_add_block]; exact hx)).trans (hc j hj)⟩, h.byte⟩
theorem bs_of {H : Type} {enc : TypeId × Value → H} {W : World} {base : Nat} {spare : Nat → Bool} {held : Bool} {fuel : Nat} {a : Option Addr} {len cap : Nat} {x : DataW H × List MemPlace}
    (h : DataW.trod enc Tryd.prog W base spare held fuel 22 [.slice a len cap] = some x) : ∃ zs, BsAt W.heap.size W a len cap zs := by
  rcases Go.ChangeShapes.open_ints Tryd.underlying22 Tryd.underlying5 (by kernel_rfl) h with ⟨hcs, _⟩ | ⟨y, l, c, zs, hcs, hb, hl, hm, hz, _, hx, hwf⟩
  · simp at hcs
    obtain ⟨rfl, rfl, rfl⟩ := hcs
    exact ⟨[], rfl, ⟨Nat.le_refl _, Nat.zero_le _⟩, fun h => absurd h (Nat.lt_irrefl _), fun z h => by cases h⟩
  · simp at hcs
    obtain ⟨rfl, rfl, rfl⟩ := hcs
    have hlz : len ≤ zs.length := by rw [hz]; split <;> omega
    refine ⟨zs.take len, by rw [List.length_take]; omega, ⟨hl, hm⟩, fun h0 => ⟨y, rfl, ?_, fun j hj => ?_⟩, fun z hzm => ?_⟩
    · have := World.block_lt_of_cell? _ _ (hx 0 (by omega))
      rwa [addr_add_block] at this
    · rw [List.length_take] at hj
      rw [hx j (by omega), List.getD_eq_getElem?_getD, List.getElem?_eq_getElem (by omega), List.getElem_take]; rfl
    · have h2 := hwf z (List.mem_of_mem_take hzm)
      simp only [Lit.wf, Bool.and_eq_true, decide_eq_true_eq] at h2
      have e1 : IntKind.u8.min = 0 := by decide
      have e2 : IntKind.u8.max = 255 := by decide
      omega
/-- A reader and how far it is. -/
structure Rd (base : Nat) (w : World) (rb : Nat) (a : Option Addr) (n cap : Nat) (zs : List Int) (p : Nat) : Prop where
  lo : base ≤ rb
  box : w.heap[rb]? = some (.cells #[.slice a n cap, .int .i64 p] RdT (0, 0))
  data : BsAt base w a n cap zs
  short : n ≤ 2000
theorem Rd.lt {base : Nat} {w : World} {rb : Nat} {a : Option Addr} {n cap : Nat} {zs : List Int} {p : Nat} (h : Rd base w rb a n cap zs p) : rb < w.heap.size := (Array.getElem?_eq_some_iff.1 h.box).1
theorem Rd.c0 {base : Nat} {w : World} {rb : Nat} {a : Option Addr} {n cap : Nat} {zs : List Int} {p : Nat} (h : Rd base w rb a n cap zs p) : w.cell? ⟨rb, 0, none⟩ = some (.slice a n cap) := by simp [World.cell?, h.box]
theorem Rd.c1 {base : Nat} {w : World} {rb : Nat} {a : Option Addr} {n cap : Nat} {zs : List Int} {p : Nat} (h : Rd base w rb a n cap zs p) : w.cell? ⟨rb, 1, none⟩ = some (.int .i64 p) := by simp [World.cell?, h.box]
theorem Rd.fr {base : Nat} {w : World} {rb : Nat} {a : Option Addr} {n cap : Nat} {zs : List Int} {p : Nat} (h : Rd base w rb a n cap zs p) : w.frozen? ⟨rb, 1, none⟩ = false := by simp [World.frozen?, h.box]
theorem Rd.below {base : Nat} {w w' : World} {rb : Nat} {a : Option Addr} {n cap : Nat} {zs : List Int} {p : Nat} (h : Rd base w rb a n cap zs p) (hb : Below w.heap.size w w') : Rd base w' rb a n cap zs p :=
  ⟨h.lo, (hb.block rb h.lt).trans h.box, h.data.below (hb.mono (Nat.le_of_lt (Nat.lt_of_le_of_lt h.lo h.lt))), h.short⟩
theorem Rd.set {base : Nat} {w : World} {rb : Nat} {a : Option Addr} {n cap : Nat} {zs : List Int} {p : Nat} (h : Rd base w rb a n cap zs p) (q : Nat) : Rd base (w.setCell ⟨rb, 1, none⟩ (.int .i64 q)) rb a n cap zs q := by
  refine ⟨h.lo, ?_, h.data.below ((Below.refl _ w).setCell (p := ⟨rb, 1, none⟩) h.lo _), h.short⟩
  obtain ⟨hlt, hk⟩ := Array.getElem?_eq_some_iff.1 h.box
  show (w.heap.modify rb _)[rb]? = _
  rw [Array.getElem?_eq_getElem (by rw [Array.size_modify]; exact hlt), Array.getElem_modify_self, hk]
  rfl

theorem grown_set (w : World) (a : Addr) (v : Value) : w.grownBy (w.setCell a v) (some a.block) :=
  ⟨rfl, rfl, rfl, by show _ ≤ (w.heap.modify a.block _).size; rw [Array.size_modify]; exact Nat.le_refl _, fun k hk hne => by
    show (w.heap.modify a.block _)[k]? = _
    rw [Array.getElem?_modify, if_neg (fun e => hne (by rw [e]))]⟩

set_option maxRecDepth 100000 in
set_option maxHeartbeats 4000000 in
theorem pick_any (base rb : Nat) (a : Option Addr) (n cap : Nat) (zs : List Int) (p m : Nat) (w : World) (h : Rd base w rb a n cap zs p) (hp : p ≤ 100000) (hm : 1 ≤ m) (hm2 : m ≤ 1000) :
    Calls Tryd.prog 23 #[.pointer (some ⟨rb, 0, none⟩), .int .i64 m] w fun e w' => (∃ z : Nat, e = .returned (.int .i64 z) ∧ z < m) ∧ Rd base w' rb a n cap zs (p + 1) ∧ Below base w w' ∧ w.grownBy w' (some rb) := by
  have hlt := h.lt
  have hc0 := h.c0
  have hc1 := h.c1
  have hfr := h.fr
  have hsh := h.short
  have hw1 : IntKind.i64.wrap ((p : Int) + 1) = (p : Int) + 1 := IntWalk.i64_in _ (by omega)
  have ep : ((p + 1 : Nat) : Int) = (p : Int) + 1 := by push_cast; rfl
  have hR := h.set (p + 1)
  rw [ep] at hR
  have hB : Below base w (w.setCell ⟨rb, 1, none⟩ (.int .i64 ((p : Int) + 1))) := (Below.refl _ w).setCell (p := ⟨rb, 1, none⟩) h.lo _
  have hG := grown_set w ⟨rb, 1, none⟩ (.int .i64 ((p : Int) + 1))
  obtain ⟨V, hV⟩ : ∃ V, w.setCell ⟨rb, 1, none⟩ (.int .i64 ((p : Int) + 1)) = V := ⟨_, rfl⟩
  have HV := Lib.hid hV
  rw [hV] at hR hB hG
  have HG := Lib.hid hG
  have hd0 := hR.c0
  have hd1 := hR.c1
  rw [ep] at hd1
  have hml : decide ((m : Int) < 1) = false := decide_eq_false (by omega)
  have hml2 : ¬ (m : Int) < 1 := by omega
  have HR := Lib.hid hR
  have HB := Lib.hid hB
  have hmz : ¬ (m : Int) = 0 := by omega
  have HD := Lib.hid hR.data
  have hw2 : IntKind.i64.wrap ((p : Int) + 1 - 1) = (p : Int) := by rw [IntWalk.i64_in _ (by omega)]; omega
  have hrem : ∀ z : Int, 0 ≤ z → ∃ r : Nat, z.tmod (m : Int) = (r : Int) ∧ r < m := fun z hz => ⟨z.toNat % m, by
    rw [Int.tmod_eq_emod_of_nonneg hz, Int.natCast_emod, Int.toNat_of_nonneg hz], Nat.mod_lt _ (by omega)⟩
  have HREM := Lib.hid hrem
  clear h hR hB hV hrem hG
  by_cases hn : n = 0
  · subst hn
    go_enter Tryd.func23, Tryd.ntmps23
    go_wp2
    go_ret
    rw [HV.out]
    exact ⟨⟨0, rfl, by omega⟩, HR.out, HB.out, HG.out⟩
  · have hn0 : ¬ (n : Int) = 0 := by omega
    have hne : ((n : Int) == 0) = false := by simpa using hn0
    obtain ⟨x, rfl, hxb, hcx⟩ := HD.out.at_ (by omega)
    have hzl := HD.out.len
    by_cases hpn : p < n
    · have hpz : p < zs.length := by omega
      obtain ⟨z, hz⟩ : ∃ z, zs[p] = z := ⟨_, rfl⟩
      have hcp := hcx p hpz
      rw [hz, ← HV.out] at hcp
      have hzb := HD.out.byte z (by rw [← hz]; exact List.getElem_mem hpz)
      obtain ⟨r, hr, hrm⟩ := HREM.out z hzb.1
      have hwz : IntKind.i64.wrap z = z := IntWalk.i64_in _ (by omega)
      have hwr : IntKind.i64.wrap (r : Int) = (r : Int) := IntWalk.i64_in _ (by omega)
      have hpi : (p : Int) < (n : Int) := by omega
      go_enter Tryd.func23, Tryd.ntmps23
      go_wp2_with fail
      go_ret
      rw [HV.out]
      exact ⟨⟨r, rfl, hrm⟩, HR.out, HB.out, HG.out⟩
    · have hpi : ¬ (p : Int) < (n : Int) := by omega
      have hn1 : 0 < n := by omega
      obtain ⟨k1, hk1⟩ : ∃ k, p % n = k := ⟨_, rfl⟩
      obtain ⟨k2, hk2⟩ : ∃ k, (p * 7 + 3) % n = k := ⟨_, rfl⟩
      obtain ⟨d, hd⟩ : ∃ d, p / n = d := ⟨_, rfl⟩
      have hk1n : k1 < n := by rw [← hk1]; exact Nat.mod_lt _ hn1
      have hk2n : k2 < n := by rw [← hk2]; exact Nat.mod_lt _ hn1
      have hdp : d ≤ p := by rw [← hd]; exact Nat.div_le_self _ _
      have ht1 : (p : Int).tmod (n : Int) = (k1 : Int) := by rw [Int.tmod_eq_emod_of_nonneg (by omega), ← hk1]; rfl
      have ht2 : ((p : Int) * 7 + 3).tmod (n : Int) = (k2 : Int) := by rw [Int.tmod_eq_emod_of_nonneg (by omega), ← hk2]; push_cast; rfl
      have ht3 : (p : Int).tdiv (n : Int) = (d : Int) := by rw [Int.tdiv_eq_ediv_of_nonneg (by omega), ← hd]; rfl
      have hz1 : k1 < zs.length := by omega
      have hz2 : k2 < zs.length := by omega
      obtain ⟨q1, hq1⟩ : ∃ z, zs[k1] = z := ⟨_, rfl⟩
      obtain ⟨q2, hq2⟩ : ∃ z, zs[k2] = z := ⟨_, rfl⟩
      have hcp1 := hcx k1 hz1
      have hcp2 := hcx k2 hz2
      rw [hq1, ← HV.out] at hcp1
      rw [hq2, ← HV.out] at hcp2
      have hb1 := HD.out.byte q1 (by rw [← hq1]; exact List.getElem_mem hz1)
      have hb2 := HD.out.byte q2 (by rw [← hq2]; exact List.getElem_mem hz2)
      have hk1i : (k1 : Int) < (n : Int) := by omega
      have hk2i : (k2 : Int) < (n : Int) := by omega
      have a1 : IntKind.i64.wrap (k1 : Int) = (k1 : Int) := IntWalk.i64_in _ (by omega)
      have a2 : IntKind.i64.wrap (k2 : Int) = (k2 : Int) := IntWalk.i64_in _ (by omega)
      have a3 : IntKind.i64.wrap (d : Int) = (d : Int) := IntWalk.i64_in _ (by omega)
      have a4 : IntKind.i64.wrap q1 = q1 := IntWalk.i64_in _ (by omega)
      have a5 : IntKind.i64.wrap q2 = q2 := IntWalk.i64_in _ (by omega)
      have a6 : IntKind.i64.wrap (q1 * 131) = q1 * 131 := IntWalk.i64_in _ (by omega)
      have a7 : IntKind.i64.wrap (q2 * 1117) = q2 * 1117 := IntWalk.i64_in _ (by omega)
      have a8 : IntKind.i64.wrap ((p : Int) * 7) = (p : Int) * 7 := IntWalk.i64_in _ (by omega)
      have a9 : IntKind.i64.wrap ((p : Int) * 7 + 3) = (p : Int) * 7 + 3 := IntWalk.i64_in _ (by omega)
      have b1 : IntKind.i64.wrap (q1 * 131 + q2 * 1117) = q1 * 131 + q2 * 1117 := IntWalk.i64_in _ (by omega)
      have b2 : IntKind.i64.wrap ((p : Int) * 29) = (p : Int) * 29 := IntWalk.i64_in _ (by omega)
      have b3 : IntKind.i64.wrap (q1 * 131 + q2 * 1117 + (p : Int) * 29) = q1 * 131 + q2 * 1117 + (p : Int) * 29 := IntWalk.i64_in _ (by omega)
      have b4 : IntKind.i64.wrap ((d : Int) * 53) = (d : Int) * 53 := IntWalk.i64_in _ (by omega)
      obtain ⟨X, hX⟩ : ∃ X : Nat, q1 * 131 + q2 * 1117 + (p : Int) * 29 + (d : Int) * 53 = (X : Int) := ⟨(q1 * 131 + q2 * 1117 + (p : Int) * 29 + (d : Int) * 53).toNat, by omega⟩
      have hXb : X ≤ 10000000 := by omega
      have b5 : IntKind.i64.wrap (X : Int) = (X : Int) := IntWalk.i64_in _ (by omega)
      have ht4 : (X : Int).tdiv 64 = ((X / 64 : Nat) : Int) := by rw [Int.tdiv_eq_ediv_of_nonneg (by omega)]; rfl
      have hY : X / 64 ≤ X := Nat.div_le_self _ _
      obtain ⟨Y, hYe⟩ : ∃ Y, X / 64 = Y := ⟨_, rfl⟩
      rw [hYe] at ht4 hY
      have b6 : IntKind.i64.wrap (Y : Int) = (Y : Int) := IntWalk.i64_in _ (by omega)
      have hxor := i64_xor X Y (by omega) (by omega)
      obtain ⟨Z, hZ⟩ : ∃ Z, X ^^^ Y = Z := ⟨_, rfl⟩
      rw [hZ] at hxor
      obtain ⟨r, hr, hrm⟩ := HREM.out (Z : Int) (by omega)
      have b7 : IntKind.i64.wrap (r : Int) = (r : Int) := IntWalk.i64_in _ (by omega)
      have HRM := Lib.hid hrm
      clear hk1 hk2 hd hq1 hq2 hb1 hb2 hdp hXb hY hYe hZ hcx hrm hzl hz1 hz2
      go_enter Tryd.func23, Tryd.ntmps23
      go_wp2
      go_quiet (fail)
      go_wp2
      go_ret
      rw [HV.out]
      exact ⟨⟨r, rfl, HRM.out⟩, ⟨HR.out.lo, HR.out.box, ⟨HR.out.data.len, HR.out.data.fit, HR.out.data.at_, HR.out.data.byte⟩, HR.out.short⟩, ⟨HB.out.os, HB.out.tape, HB.out.output, HB.out.size, HB.out.block⟩, ⟨HG.out.os, HG.out.tape, HG.out.output, HG.out.size, HG.out.block⟩⟩

set_option maxHeartbeats 1000000 in
theorem open_any (a : Option Addr) (n cap : Nat) (zs : List Int) (w : World) (h : BsAt w.heap.size w a n cap zs) :
    Calls Tryd.prog 11 #[.slice a n cap] w fun e w' => ∃ n' zs', e = .returned (.pointer (some ⟨w.heap.size, 0, none⟩)) ∧ Rd w.heap.size w' w.heap.size a n' cap zs' 0 ∧ Below w.heap.size w w' := by
  have hf := h.fit
  have hl := h.len
  unfold maxLen at hf
  have hB : ∀ m : Nat, Below w.heap.size w (w.alloc (.cells #[.slice a m cap, .int .i64 0] RdT)) := fun m => (Below.refl _ w).alloc (Nat.le_refl _) _
  have hRd : ∀ (m : Nat) (ys : List Int), m ≤ 2000 → BsAt w.heap.size w a m cap ys → Rd w.heap.size (w.alloc (.cells #[.slice a m cap, .int .i64 0] RdT)) w.heap.size a m cap ys 0 := fun m ys hm hd => ⟨Nat.le_refl _, World.alloc_heap_new w _, hd.below (hB m), hm⟩
  have HRD := Lib.hid hRd
  have HBD := Lib.hid hB
  have H := Lib.hid h
  clear h hRd hB
  by_cases hn : n ≤ 2000
  · have hd : decide ((2000 : Int) < (n : Int)) = false := decide_eq_false (by omega)
    go_enter Tryd.func11, Tryd.ntmps11
    go_wp2
    go_ret
    exact ⟨n, zs, rfl, HRD.out n zs hn H.out, HBD.out n⟩
  · have hd : decide ((2000 : Int) < (n : Int)) = true := decide_eq_true (by omega)
    obtain ⟨x, rfl, hxb, hc⟩ := H.out.at_ (by omega)
    have hcap : (2000 : Int) ≤ (cap : Int) := by omega
    have hcap2 : 2000 ≤ cap := by omega
    have H2 : Hid (BsAt w.heap.size w (some x) 2000 cap (zs.take 2000)) := Lib.hid ⟨by rw [List.length_take]; omega, ⟨hcap2, H.out.fit.2⟩, fun _ => ⟨x, rfl, hxb, fun j hj => by rw [List.getElem_take]; exact hc j (by rw [List.length_take] at hj; omega)⟩, fun z hz => H.out.byte z (List.mem_of_mem_take hz)⟩
    clear hc
    go_enter Tryd.func11, Tryd.ntmps11
    go_wp2
    go_ret
    exact ⟨2000, zs.take 2000, rfl, HRD.out 2000 _ (Nat.le_refl _) H2.out, HBD.out 2000⟩

end Go.Proofs.YtdhmicpoigoleabDoor

/- The contracts of the model's 'of', 'l91Mono' and 'DrawSeriesShuffle'. -/

namespace Go.Proofs.YtdhmicpoigoleabDoor
open Go.RowKit Go.Shelf

def abL : List ByteArray := [{ data := #[97] }, { data := #[98] }]
theorem abL_size : ∀ s ∈ abL, s.size = 1 := by decide

end Go.Proofs.YtdhmicpoigoleabDoor

/- The contracts of the model's 'l91Word', 'l91Two' and 'DrawWordComm'. -/

namespace Go.Proofs.YtdhmicpoigoleabDoor
open Go.RowKit Go.Shelf

theorem conv_byte (c : UInt8) (v : Int) (hv : (c.toNat : Int) = v) (V : World) : (convert 22 9 (.slice (some ⟨V.heap.size, 0, none⟩) 1 1)).run Tryd.prog (V.alloc (.cells #[.int .u8 v] 5)) = .ok (.string (bstr [c])) (V.alloc (.cells #[.int .u8 v] 5)) := by
  have := run_convert_bytes_back (P := Tryd.prog) (V.alloc (.cells #[.int .u8 v] 5)) 22 9 5 ⟨V.heap.size, 0, none⟩ 1 [c] Tryd.underlying22 Tryd.underlying5 Tryd.underlying9 (fun j hj => by
    have hj0 : j = 0 := by simp at hj; exact hj
    subst hj0
    show (V.alloc _).cell? ((⟨V.heap.size, 0, none⟩ : Addr).add 0) = some (.int .u8 (c.toNat : Int))
    rw [hv]
    exact cell_one_new _ _ _ 0 _ rfl)
  exact this

theorem grownAny_of_below {w w' : World} (hb : Below w.heap.size w w') (row : Option Nat) : w.grownBy w' row := ⟨hb.os, hb.tape, hb.output, hb.size, fun j hj _ => hb.block j hj⟩

set_option maxRecDepth 100000 in
set_option maxHeartbeats 2000000 in
theorem l91Word_grown (base rb : Nat) (a : Option Addr) (n cap : Nat) (zs : List Int) (p most gens : Nat) (w : World) (h : Rd base w rb a n cap zs p) (hp : p ≤ 90000) (hm : most ≤ 20) (hg1 : 1 ≤ gens) (hg2 : gens ≤ 4) :
    Calls Tryd.prog 22 #[.pointer (some ⟨rb, 0, none⟩), .int .i64 most, .int .i64 gens] w fun e w' => (∃ s : ByteArray, e = .returned (.string s) ∧ s.size ≤ most + 1) ∧ (∃ p', p' ≤ p + 60 ∧ Rd base w' rb a n cap zs p') ∧ Below base w w' ∧ w.grownBy w' (some rb) := by
  have hw1 : IntKind.i64.wrap ((most : Int) + 1) = ((most + 1 : Nat) : Int) := by rw [IntWalk.i64_in _ (by omega)]; push_cast; rfl
  have hlo := h.lo
  have hrl := h.lt
  have HP := Lib.hid (pick_any base rb a n cap zs p (most + 1) w h (by omega) (by omega) (by omega))
  clear h
  go_enter Tryd.func22, Tryd.ntmps22
  go_wp2_with fail
  refine HP.out.mono ?_
  rintro e w1 ⟨⟨N, rfl, hN⟩, hR1, hB1, hG1⟩
  have HR1 := Lib.hid hR1
  have HB1 := Lib.hid hB1
  have HG1 := Lib.hid hG1
  clear hR1 hB1 hG1
  go_wp2_with fail
  go_loopw [7, 9] (fun v i wr => ∃ (k : Nat) (s : ByteArray), k ≤ N ∧ v = .string s ∧ i = .int .i64 k ∧ s.size ≤ k ∧ Rd base wr rb a n cap zs (p + 1 + 2 * k) ∧ Below base w wr ∧ w.grownBy wr (some rb)) (fun _ i _ => N - (intOf i).toNat)
  case atStart => exact ⟨0, _, Nat.zero_le _, rfl, rfl, Nat.le_refl _, HR1.out, HB1.out, HG1.out⟩
  case round =>
    obtain ⟨k, s, hk, rfl, rfl, hsz, hR, hB, hG⟩ := hrel
    have HR := Lib.hid hR
    have HB := Lib.hid hB
    have HG := Lib.hid hG
    have hbl := hR.lt
    clear hR hB hG
    by_cases hlt : k < N
    · have hli : (k : Int) < (N : Int) := by omega
      have HP2 := Lib.hid (pick_any base rb a n cap zs (p + 1 + 2 * k) gens wr HR.out (by omega) hg1 (by omega))
      go_wp2_with fail
      refine HP2.out.mono ?_
      rintro e w5 ⟨⟨z, rfl, hz⟩, hR5, hB5, hG5⟩
      have HP3 := Lib.hid (pick_any base rb a n cap zs (p + 1 + 2 * k + 1) 2 w5 hR5 (by omega) (by omega) (by omega))
      have HB5 := Lib.hid (HB.out.trans hB5)
      have HG5 := Lib.hid (HG.out.trans hG5)
      have hwz : IntKind.i64.wrap (97 + (z : Int)) = 97 + (z : Int) := IntWalk.i64_in _ (by omega)
      have hwu : IntKind.u8.wrap (97 + (z : Int)) = 97 + (z : Int) := IntWalk.u8_in _ (by omega)
      clear hR5 hB5 hG5
      go_wp2_with fail
      refine HP3.out.mono ?_
      rintro e w6 ⟨⟨y, rfl, hy⟩, hR6, hB6, hG6⟩
      have HB6 := Lib.hid (HB5.out.trans hB6)
      have HG6 := Lib.hid (HG5.out.trans hG6)
      have hb6l := hR6.lt
      have hnot : ¬ 9223372036854775807 < s.size + 1 := by omega
      have HR6 := Lib.hid hR6
      clear hR6 hB6 hG6
      by_cases hy0 : y = 0
      · subst hy0
        have hws : IntKind.u8.wrap (97 + (z : Int) - 32) = 65 + (z : Int) := by rw [show (97 : Int) + (z : Int) - 32 = 65 + (z : Int) by omega]; exact IntWalk.u8_in _ (by omega)
        obtain ⟨t, ht⟩ : ∃ t, bstr [UInt8.ofNat (65 + z)] = t := ⟨_, rfl⟩
        have hts : t.size = 1 := by rw [← ht]; rfl
        have hcv := conv_byte (UInt8.ofNat (65 + z)) (65 + (z : Int)) (by rw [UInt8.toNat_ofNat', Nat.mod_eq_of_lt (by omega)]; push_cast; rfl) w6
        rw [ht] at hcv
        have hnot2 : ¬ 9223372036854775807 < s.size + t.size := by omega
        have HR7 := Lib.hid (HR6.out.below ((Below.refl _ w6).alloc (Nat.le_refl _) (.cells #[.int .u8 (65 + (z : Int))] 5)))
        have HB7 := Lib.hid (HB6.out.alloc (by omega) (.cells #[.int .u8 (65 + (z : Int))] 5))
        have HG7 := Lib.hid (HG6.out.trans (World.grownBy_alloc w6 (.cells #[.int .u8 (65 + (z : Int))] 5) _))
        clear ht
        go_wp2
        go_roundw
        case rel => exact ⟨k + 1, _, by omega, rfl, by go_num, by rw [ByteArray.size_append]; omega, (show p + 1 + 2 * (k + 1) = p + 1 + 2 * k + 1 + 1 by omega) ▸ HR7.out, HB7.out, HG7.out⟩
        case measure => simp [intOf]; omega
      · have hyi : ((y : Int) == 0) = false := by simpa using hy0
        have hyn : ¬ (y : Int) = 0 := by omega
        obtain ⟨t, ht⟩ : ∃ t, bstr [UInt8.ofNat (97 + z)] = t := ⟨_, rfl⟩
        have hts : t.size = 1 := by rw [← ht]; rfl
        have hcv := conv_byte (UInt8.ofNat (97 + z)) (97 + (z : Int)) (by rw [UInt8.toNat_ofNat', Nat.mod_eq_of_lt (by omega)]; push_cast; rfl) w6
        rw [ht] at hcv
        have hnot2 : ¬ 9223372036854775807 < s.size + t.size := by omega
        have HR7 := Lib.hid (HR6.out.below ((Below.refl _ w6).alloc (Nat.le_refl _) (.cells #[.int .u8 (97 + (z : Int))] 5)))
        have HB7 := Lib.hid (HB6.out.alloc (by omega) (.cells #[.int .u8 (97 + (z : Int))] 5))
        have HG7 := Lib.hid (HG6.out.trans (World.grownBy_alloc w6 (.cells #[.int .u8 (97 + (z : Int))] 5) _))
        clear ht
        go_wp2
        go_roundw
        case rel => exact ⟨k + 1, _, by omega, rfl, by go_num, by rw [ByteArray.size_append]; omega, (show p + 1 + 2 * (k + 1) = p + 1 + 2 * k + 1 + 1 by omega) ▸ HR7.out, HB7.out, HG7.out⟩
        case measure => simp [intOf]; omega
    · obtain rfl : N = k := by omega
      have HP2 := Lib.hid (pick_any base rb a n cap zs (p + 1 + 2 * N) 30 wr HR.out (by omega) (by omega) (by omega))
      go_wp2_with fail
      refine HP2.out.mono ?_
      rintro e w6 ⟨⟨z, rfl, hz⟩, hR6, hB6, hG6⟩
      have hb6l := hR6.lt
      have HR6 := Lib.hid hR6
      have HB6 := Lib.hid (HB.out.trans hB6)
      have HG6 := Lib.hid (HG.out.trans hG6)
      have hnot : ¬ 9223372036854775807 < s.size + 1 := by omega
      clear hR6 hB6 hG6
      by_cases hz0 : z = 0
      · subst hz0
        go_wp2
        go_ret
        exact ⟨⟨_, rfl, by rw [ByteArray.size_append]; show s.size + 1 ≤ _; omega⟩, ⟨_, by omega, HR6.out⟩, HB6.out, HG6.out⟩
      · have hzi : ((z : Int) == 0) = false := by simpa using hz0
        have hzn : ¬ (z : Int) = 0 := by omega
        have hrl2 := redL_len s.data.toList []
        obtain ⟨q, hq⟩ : ∃ q, bstr (redL [] s.data.toList) = q := ⟨_, rfl⟩
        have hqs : q.size ≤ s.size := by
          have e1 : q.size = (redL [] s.data.toList).length := by rw [← hq]; have : (bstr (redL [] s.data.toList)).size = (bstr (redL [] s.data.toList)).data.toList.length := by simp
                                                                  rw [this, bstr_toList]
          have e2 : s.data.toList.length = s.size := by simp
          simp only [List.length_nil] at hrl2
          omega
        have HRe := Lib.hid (reduce_is s q w6 (by omega) hq)
        clear hq hrl2
        go_wp2_with fail
        refine HRe.out.mono ?_
        rintro e w7 ⟨rfl, hb7⟩
        have HR7 := Lib.hid (HR6.out.below hb7)
        have HB7 := Lib.hid (HB6.out.trans (hb7.mono (by omega)))
        have HG7 := Lib.hid (HG6.out.trans (grownAny_of_below hb7 _))
        clear hb7
        go_wp2
        go_ret
        exact ⟨⟨_, rfl, by omega⟩, ⟨_, by omega, HR7.out⟩, HB7.out, HG7.out⟩

theorem l91Word_any (base rb : Nat) (a : Option Addr) (n cap : Nat) (zs : List Int) (p most gens : Nat) (w : World) (h : Rd base w rb a n cap zs p) (hp : p ≤ 90000) (hm : most ≤ 20) (hg1 : 1 ≤ gens) (hg2 : gens ≤ 4) :
    Calls Tryd.prog 22 #[.pointer (some ⟨rb, 0, none⟩), .int .i64 most, .int .i64 gens] w fun e w' => (∃ s : ByteArray, e = .returned (.string s) ∧ s.size ≤ most + 1) ∧ (∃ p', p' ≤ p + 60 ∧ Rd base w' rb a n cap zs p') ∧ Below base w w' := 
  (l91Word_grown base rb a n cap zs p most gens w h hp hm hg1 hg2).mono fun _ _ ⟨h1, h2, h3, _⟩ => ⟨h1, h2, h3⟩

end Go.Proofs.YtdhmicpoigoleabDoor

/- The contracts of the laws' 'markTermS' and 'heldTermS'. -/

namespace Go.Proofs.YtdhmicpoigoleabDoor
open Go.RowKit Go.Shelf

def markT (k i : Nat) : Tm := ⟨((k + 2 * i : Nat) : Int), mkS (k + 2 * i + 1)⟩
/-- The marks from k on. -/
def marksT (k n : Nat) : List Tm := (List.range n).map (markT k)
theorem marksT_len (k n : Nat) : (marksT k n).length = n := by simp [marksT]
theorem marksT_get (k n i : Nat) (h : i < (marksT k n).length) : (marksT k n)[i] = markT k i := by simp [marksT]
theorem marksT_set (k j n : Nat) (us : List Tm) (hl : us.length = n) (hj : j < n) : (marksT k j ++ us.drop j).set j (markT k j) = marksT k (j + 1) ++ us.drop (j + 1) := by
  rw [List.set_append_right _ _ (by rw [marksT_len]; exact Nat.le_refl _), marksT_len, Nat.sub_self, List.drop_eq_getElem_cons (by omega : j < us.length), List.set_cons_zero]
  unfold marksT
  rw [List.range_succ, List.map_append, List.append_assoc]
  rfl

theorem ownsRow_past {w w' : World} {base : Nat} {e : TypeId} {size : Nat} {v : Value} {n : Nat} {xs : List Value} (h : w.ownsRow base e size v n xs) (hb : Below w.heap.size w w') : w'.ownsRow base e size v n xs :=
  h.kept ⟨hb.os, hb.tape, hb.output, hb.size, fun j hj _ => hb.block j hj⟩ (row := none) (by
    rcases h.2 with ⟨rfl, _⟩ | ⟨g, cap, cur, rfl, _⟩
    · exact .inl rfl
    · exact .inr (by simp [Value.ownBlock]))
theorem marksT_row (k j n : Nat) (us : List Tm) (hl : us.length = n) (hj : j < n) :
    ((termsV (marksT k j ++ us.drop j)).set (j * 2) (.int .i64 ((k + 2 * j : Nat) : Int))).set (j * 2 + 1) (.string (mkS (k + 2 * j + 1))) = termsV (marksT k (j + 1) ++ us.drop (j + 1)) := by
  rw [← marksT_set k j n us hl hj]
  exact set_terms _ j (markT k j) (by rw [List.length_append, marksT_len, List.length_drop]; omega)

theorem grown_trans {a b c : World} {row : Option Nat} (h : a.grownBy b row) (k : b.grownBy c row) : a.grownBy c row :=
  ⟨k.os.trans h.os, k.tape.trans h.tape, k.output.trans h.output, Nat.le_trans h.size k.size, fun i hi hne => (k.block i (Nat.lt_of_lt_of_le hi h.size) hne).trans (h.block i hi hne)⟩
theorem grown_refl (a : World) (row : Option Nat) : a.grownBy a row := ⟨rfl, rfl, rfl, Nat.le_refl _, fun _ _ _ => rfl⟩
theorem grown_below {a b : World} (row : Option Nat) (h : Below a.heap.size a b) : a.grownBy b row := ⟨h.os, h.tape, h.output, h.size, fun i hi _ => h.block i hi⟩
theorem mkB_size : ∀ (m : Nat) (t : ByteArray), (mkB m t).size ≤ t.size + m := by
  intro m
  induction m using Nat.strongRecOn with
  | _ m ih =>
    intro t
    by_cases h : m = 0
    · subst h; rw [mkB_zero]; exact Nat.le_refl _
    · rw [← mkB_step h]
      have h1 := ih (m / 10) (by omega) (⟨#[UInt8.ofNat (48 + m % 10)]⟩ ++ t)
      have h2 : ((⟨#[UInt8.ofNat (48 + m % 10)]⟩ : ByteArray) ++ t).size = 1 + t.size := by simp [ByteArray.size_append]; rfl
      omega
theorem mkS_size (k : Nat) : (mkS k).size ≤ k + 1 := by
  have h := mkB_size k ⟨#[]⟩
  have h0 : (⟨#[]⟩ : ByteArray).size = 0 := rfl
  have h1 : (mkS k).size = 1 + (mkB k ⟨#[]⟩).size := by unfold mkS; simp [ByteArray.size_append]; rfl
  omega
theorem marksT_small (k n : Nat) (hk : k ≤ 1000000) (hn : n ≤ 1048576) : SmallT (marksT k n) :=
  ⟨by rw [marksT_len]; unfold maxLen; omega, fun t ht => by
    unfold marksT at ht
    obtain ⟨i, hi, rfl⟩ := List.mem_map.1 ht
    have hi := List.mem_range.1 hi
    have := mkS_size (k + 2 * i + 1)
    unfold markT maxLen
    dsimp only
    omega⟩

def marksS (k n : Nat) : List ByteArray := (List.range n).map fun i => mkS (k + i)
theorem marksS_len (k n : Nat) : (marksS k n).length = n := by simp [marksS]
theorem marksS_set (k j n : Nat) (us : List ByteArray) (hl : us.length = n) (hj : j < n) : (strsV (marksS k j ++ us.drop j)).set j (.string (mkS (k + j))) = strsV (marksS k (j + 1) ++ us.drop (j + 1)) := by
  have h1 : (marksS k j ++ us.drop j).set j (mkS (k + j)) = marksS k (j + 1) ++ us.drop (j + 1) := by
    rw [List.set_append_right _ _ (by rw [marksS_len]; exact Nat.le_refl _), marksS_len, Nat.sub_self, List.drop_eq_getElem_cons (by omega : j < us.length), List.set_cons_zero]
    unfold marksS
    rw [List.range_succ, List.map_append, List.append_assoc]
    rfl
  rw [← h1]
  unfold strsV
  rw [List.map_set]
def OwnS (base : Nat) (w : World) (v : Value) (zs : List ByteArray) : Prop := w.ownsRow base 9 1 v zs.length (strsV zs)
theorem OwnS.below {base : Nat} {w w' : World} {v : Value} {zs : List ByteArray} (h : OwnS base w v zs) (hb : Below w.heap.size w w') : OwnS base w' v zs := ownsRow_past h hb

end Go.Proofs.YtdhmicpoigoleabDoor

/- The contracts of the program's 'imagesOf' and 'WordPut'. -/

namespace Go.Proofs.YtdhmicpoigoleabDoor
open Go.RowKit Go.Shelf

/-- A list of strings from a cell 0 on, as a law copies it. -/
structure StrsIn (w : World) (a : Option Addr) (g : Nat) (n : Nat) (zs : List ByteArray) : Prop where
  len : zs.length = n
  at0 : 0 < n → a = some ⟨g, 0, none⟩
  blk : g < w.heap.size
  cells : ∀ i (h : i < zs.length), w.cell? ⟨g, i, none⟩ = some (.string zs[i])
  small : ∀ s ∈ zs, s.size ≤ maxLen
theorem StrsIn.below {w w' : World} {a : Option Addr} {g n : Nat} {zs : List ByteArray} (h : StrsIn w a g n zs) (hb : Below w.heap.size w w') : StrsIn w' a g n zs :=
  ⟨h.len, h.at0, Nat.lt_of_lt_of_le h.blk hb.size, fun i hi => (hb.cell (p := ⟨g, i, none⟩) h.blk).trans (h.cells i hi), h.small⟩

end Go.Proofs.YtdhmicpoigoleabDoor

/- Letters as a free group: reducing goes along, inverses cancel, sums of letters, powers, commutators, putting. -/

namespace Go.Proofs.YtdhmicpoigoleabDoor
open Go.RowKit

theorem toList_size (s : ByteArray) : s.data.toList.length = s.size := by simp
theorem letL_step {l : List UInt8} {c : UInt8} (hl : letL l = true) (hc : letB c = true) : letL (redStep l c) = true := by
  unfold redStep
  split
  · exact letL_of_mem l _ hl fun _ h => List.dropLast_subset _ h
  · rw [letL_append, hl, letL_cons, hc]; rfl
theorem letL_red2 : ∀ (s acc : List UInt8), letL s = true → letL acc = true → letL (redL acc s) = true
  | [], _, _, h => h
  | c :: s, acc, h, ha => by
    rw [letL_cons, Bool.and_eq_true] at h
    exact letL_red2 s (redStep acc c) h.2 (letL_step ha h.1)
theorem step_cancel {l : List UInt8} (hn : noC l) {x : UInt8} (hx : letB x = true) : redStep (redStep l x) (turnB x) = l := by
  obtain ⟨ht, hx2⟩ := turn_turn x hx
  by_cases h : l.getLast? = some (turnB x)
  · obtain ⟨p, y, rfl⟩ := last_split l (by cases l with | nil => simp at h | cons a l => simp)
    have hy : y = turnB x := by simpa using h
    subst hy
    rw [redStep_pop p (turnB x) x rfl]
    by_cases h2 : p.getLast? = some (turnB (turnB x))
    · exfalso
      obtain ⟨q, z, rfl⟩ := last_split p (by cases p with | nil => simp at h2 | cons a l => simp)
      have hz : z = turnB (turnB x) := by simpa using h2
      exact hn q z (turnB x) [] (by simp) hz
    · unfold redStep; rw [if_neg h2]
  · have e : redStep l x = l ++ [x] := by unfold redStep; rw [if_neg h]
    rw [e, redStep_pop l x (turnB x) ht.symm]
theorem red_through : ∀ (y acc : List UInt8), noC acc → letL y = true → redL acc (redL [] y) = redL acc y := by
  intro y
  generalize hn : y.length = n
  induction n generalizing y with
  | zero => intro acc _ _; rw [List.length_eq_zero_iff.1 hn]; rfl
  | succ n ih =>
    intro acc ha hl
    obtain ⟨p, c, rfl⟩ := last_split y (by omega)
    have hp : p.length = n := by rw [List.length_append] at hn; simp at hn; exact hn
    rw [letL_append, Bool.and_eq_true] at hl
    have hc : letB c = true := by have := hl.2; simp [letL] at this; exact this
    have h1 := ih p hp acc ha hl.1
    rw [redL_snoc, redL_snoc]
    by_cases h : (redL [] p).getLast? = some (turnB c)
    · obtain ⟨q, z, hq⟩ := last_split (redL [] p) (by cases hr : redL [] p with | nil => rw [hr] at h; simp at h | cons a l => simp)
      rw [hq] at h h1 ⊢
      have hz : z = turnB c := by simpa using h
      subst hz
      rw [redStep_pop q (turnB c) c rfl, ← h1, redL_snoc]
      have := step_cancel (noC_red q acc ha) (turn_turn c hc).2
      rw [(turn_turn c hc).1] at this
      exact this.symm
    · have e : redStep (redL [] p) c = redL [] p ++ [c] := by unfold redStep; rw [if_neg h]
      rw [e, redL_snoc, h1]
/-- Reducing parts first. -/
theorem red_both {a b : List UInt8} (hb : letL b = true) : redL [] (redL [] a ++ redL [] b) = redL [] (a ++ b) := by
  rw [red_append, redL_append, redL_append, red_through b _ (noC_red a [] noC_nil) hb]
theorem red_right {a b : List UInt8} (hb : letL b = true) : redL [] (a ++ redL [] b) = redL [] (a ++ b) := by
  rw [redL_append, redL_append, red_through b _ (noC_red a [] noC_nil) hb]
/-- A word and its inverse. -/
theorem red_cancel : ∀ (s acc : List UInt8), noC acc → letL s = true → redL (redL acc s) (backL s) = acc := by
  intro s
  induction s with
  | nil => intro acc _ _; rfl
  | cons c s ih =>
    intro acc ha hl
    rw [letL_cons, Bool.and_eq_true] at hl
    have e : backL (c :: s) = backL s ++ [turnB c] := by simp [backL]
    have e2 : redL acc (c :: s) = redL (redStep acc c) s := rfl
    rw [e, redL_append, e2, ih _ (noC_step acc c ha) hl.2]
    exact step_cancel ha hl.1
theorem red_inv {s : List UInt8} (hl : letL s = true) (a : List UInt8) : redL [] (a ++ s ++ backL s) = redL [] a := by
  rw [redL_append, redL_append]
  exact red_cancel s _ (noC_red a [] noC_nil) hl
theorem red_inv2 {s : List UInt8} (hl : letL s = true) (a : List UInt8) : redL [] (a ++ backL s ++ s) = redL [] a := by
  have := red_inv (letL_back s hl) a
  rwa [back_back s hl] at this
/-- Words that are the same behind each other's inverse. -/
theorem red_unique {a b : List UInt8} (hb : letL b = true) (h : redL [] (a ++ backL b) = []) : redL [] a = redL [] b := by
  have h1 : redL [] (a ++ backL b ++ b) = redL [] a := red_inv2 hb a
  rw [← h1, redL_append, h]
theorem back_red {s : List UInt8} (hl : letL s = true) : backL (redL [] s) = redL [] (backL s) := by
  have hr := letL_red2 s [] hl rfl
  have h1 : redL [] (backL (redL [] s)) = backL (redL [] s) := red_back _ hr (red_red s)
  rw [← h1]
  refine red_unique (letL_back s hl) ?_
  rw [back_back s hl, ← red_right hl]
  have := red_inv2 hr []
  rw [List.nil_append] at this
  exact this
/-! ### Sums of letters -/
theorem sgnB_bnd2 (x : UInt8) : -1 ≤ sgnB x ∧ sgnB x ≤ 1 := by unfold sgnB; split <;> omega
def sgL (i : Nat) : List UInt8 → Int
  | [] => 0
  | c :: r => (if idxB c = i then sgnB c else 0) + sgL i r
theorem sgL_append (i : Nat) : ∀ a b : List UInt8, sgL i (a ++ b) = sgL i a + sgL i b
  | [], b => by simp [sgL]
  | c :: r, b => by rw [List.cons_append, sgL, sgL, sgL_append i r b]; omega
theorem sg_turn {c : UInt8} (hc : letB c = true) : idxB (turnB c) = idxB c ∧ sgnB (turnB c) = - sgnB c := by
  have h := (letB_iff c).1 hc
  unfold idxB sgnB
  rcases h with h | h
  · have := turnB_hi c h.1
    rw [if_neg (by omega), if_pos (by omega), if_neg (by omega), if_pos (by omega)]; omega
  · have := turnB_lo c (by omega)
    rw [if_pos (by omega), if_neg (by omega), if_pos (by omega), if_neg (by omega)]; omega
theorem sgL_turn (i : Nat) {c : UInt8} (hc : letB c = true) : sgL i [turnB c] = - sgL i [c] := by
  obtain ⟨h1, h2⟩ := sg_turn hc
  simp only [sgL]
  rw [h1, h2]; split <;> omega
theorem sgL_back (i : Nat) : ∀ s : List UInt8, letL s = true → sgL i (backL s) = - sgL i s
  | [], _ => by simp [sgL, backL]
  | c :: s, h => by
    rw [letL_cons, Bool.and_eq_true] at h
    have e : backL (c :: s) = backL s ++ [turnB c] := by simp [backL]
    rw [e, sgL_append, sgL_back i s h.2, sgL_turn i h.1, show c :: s = [c] ++ s from rfl, sgL_append]; omega
theorem sgL_step (i : Nat) {l : List UInt8} {c : UInt8} (hc : letB c = true) : sgL i (redStep l c) = sgL i l + sgL i [c] := by
  by_cases h : l.getLast? = some (turnB c)
  · obtain ⟨p, y, rfl⟩ := last_split l (by cases l with | nil => simp at h | cons a l => simp)
    have hy : y = turnB c := by simpa using h
    subst hy
    rw [redStep_pop p (turnB c) c rfl, sgL_append, sgL_turn i hc]; omega
  · have e : redStep l c = l ++ [c] := by unfold redStep; rw [if_neg h]
    rw [e, sgL_append]
theorem sgL_red (i : Nat) : ∀ (s acc : List UInt8), letL s = true → sgL i (redL acc s) = sgL i acc + sgL i s
  | [], acc, _ => by simp [redL_nil, sgL]
  | c :: s, acc, h => by
    rw [letL_cons, Bool.and_eq_true] at h
    have e : redL acc (c :: s) = redL (redStep acc c) s := rfl
    rw [e, sgL_red i s _ h.2, sgL_step i h.1, show c :: s = [c] ++ s from rfl, sgL_append]; omega
theorem sums_get : ∀ (s : List UInt8), letL s = true → ∀ i (h : i < (sumsL s).length), (sumsL s)[i] = sgL i s := by
  intro s
  generalize hn : s.length = n
  induction n generalizing s with
  | zero =>
    intro _ i h
    obtain rfl := List.length_eq_zero_iff.1 hn
    have h4 : i < 4 := h
    rcases (show i = 0 ∨ i = 1 ∨ i = 2 ∨ i = 3 by omega) with rfl | rfl | rfl | rfl <;> rfl
  | succ n ih =>
    intro hl i h
    obtain ⟨p, c, rfl⟩ := last_split s (by omega)
    have hp : p.length = n := by rw [List.length_append] at hn; simp at hn; exact hn
    rw [letL_append, Bool.and_eq_true] at hl
    have hc : letB c = true := by have := hl.2; simp [letL] at this; exact this
    have h4 := (sumsL_inv p hl.1).1
    have hi := idxB_lt c hc
    have h4s := (sumsL_inv (p ++ [c]) (by rw [letL_append, hl.1, hl.2]; rfl)).1
    have hi4 : i < (sumsL p).length := by omega
    have h1 := ih p hp hl.1 i hi4
    have e : sumsL (p ++ [c]) = (sumsL p).set (idxB c) ((sumsL p)[idxB c]?.getD 0 + sgnB c) := sumsL_snoc p c
    simp only [e]
    rw [List.getElem_set, sgL_append, ← h1]
    simp only [sgL]
    by_cases hic : idxB c = i
    · subst hic
      rw [if_pos rfl, if_pos rfl, List.getElem?_eq_getElem hi4]
      simp
    · rw [if_neg hic, if_neg hic]; omega
theorem sums_eq {s t : List UInt8} (hs : letL s = true) (ht : letL t = true) (h : ∀ i, i < 4 → sgL i s = sgL i t) : sumsL s = sumsL t := by
  have h1 := (sumsL_inv s hs).1
  have h2 := (sumsL_inv t ht).1
  refine List.ext_getElem (by omega) fun i hi hj => ?_
  rw [sums_get s hs, sums_get t ht]
  exact h i (by omega)
/-! ### Powers -/
theorem powL_next {s : List UInt8} (hl : letL s = true) (n : Int) : redL [] (powL (n + 1) s) = redL [] (powL n s ++ s) := by
  unfold powL
  by_cases h : n < 0
  · rw [if_pos h]
    obtain ⟨m, hm⟩ : ∃ m : Nat, n.natAbs = m + 1 := ⟨n.natAbs - 1, by omega⟩
    have e1 : repL n.natAbs (backL s) = repL m (backL s) ++ backL s := by rw [hm, ← repL_add m 1, repL_one]
    rw [e1, red_inv2 hl]
    by_cases h2 : n + 1 < 0
    · rw [if_pos h2, show (n + 1).natAbs = m by omega]
    · rw [if_neg h2, show (n + 1).natAbs = 0 by omega, show m = 0 by omega]; rfl
  · rw [if_neg h, if_neg (show ¬ n + 1 < 0 by omega), show (n + 1).natAbs = n.natAbs + 1 by omega, ← repL_add n.natAbs 1, repL_one]

end Go.Proofs.YtdhmicpoigoleabDoor

/- Commutators, parity, cores and putting, over lists of letters. -/

namespace Go.Proofs.YtdhmicpoigoleabDoor
open Go.RowKit

/-! ### Commutators -/
theorem comm_back {a b : List UInt8} (ha : letL a = true) (hb : letL b = true) : backL (commL a b) = commL b a := by
  unfold commL
  rw [backL_append, backL_append, backL_append, back_back a ha, back_back b hb]
  simp
theorem comm_let {a b : List UInt8} (ha : letL a = true) (hb : letL b = true) : letL (commL a b) = true := by
  unfold commL
  rw [letL_append, letL_append, letL_append, ha, hb, letL_back a ha, letL_back b hb]; rfl
theorem comm_sg (i : Nat) {a b : List UInt8} (ha : letL a = true) (hb : letL b = true) : sgL i (commL a b) = 0 := by
  unfold commL
  rw [sgL_append, sgL_append, sgL_append, sgL_back i a ha, sgL_back i b hb]; omega
/-- A commutator ahead of the product the other way. -/
theorem comm_times {a b : List UInt8} (ha : letL a = true) (hb : letL b = true) : redL [] (commL a b ++ (b ++ a)) = redL [] (a ++ b) := by
  unfold commL
  rw [show a ++ b ++ backL a ++ backL b ++ (b ++ a) = (a ++ b ++ backL a ++ backL b ++ b) ++ a by simp, redL_append, red_inv2 hb, ← redL_append, red_inv2 ha]
theorem sums_comm {a b : List UInt8} (ha : letL a = true) (hb : letL b = true) : sumsL (redL [] (commL a b)) = [0, 0, 0, 0] := by
  have hl := letL_red2 _ [] (comm_let ha hb) rfl
  have h4 := (sumsL_inv _ hl).1
  refine List.ext_getElem (by rw [h4]; rfl) fun i hi hj => ?_
  rw [sums_get _ hl, sgL_red i _ [] (comm_let ha hb), comm_sg i ha hb]
  have hj4 : i < 4 := hj
  rcases (show i = 0 ∨ i = 1 ∨ i = 2 ∨ i = 3 by omega) with rfl | rfl | rfl | rfl <;> rfl
/-! ### Parity -/
theorem step_parity (l : List UInt8) (c : UInt8) : ∃ k, (redStep l c).length + 2 * k = l.length + 1 := by
  unfold redStep
  split
  · refine ⟨1, ?_⟩
    rename_i h
    cases l with
    | nil => simp at h
    | cons a r => simp
  · exact ⟨0, by simp⟩
theorem red_parity : ∀ (s l : List UInt8), ∃ k, (redL l s).length + 2 * k = l.length + s.length
  | [], l => ⟨0, by simp [redL_nil]⟩
  | c :: s, l => by
    obtain ⟨k, hk⟩ := step_parity l c
    obtain ⟨j, hj⟩ := red_parity s (redStep l c)
    refine ⟨k + j, ?_⟩
    have e : redL l (c :: s) = redL (redStep l c) s := rfl
    rw [e, List.length_cons]; omega
/-! ### Cores -/
theorem coreF_core : ∀ (m : Nat) (l : List UInt8), l.length ≤ m → coreC (coreF m l) = false
  | 0, l, h => by
    have : l = [] := List.length_eq_zero_iff.1 (by omega)
    subst this
    rfl
  | m + 1, l, h => by
    rw [coreF]
    split
    · rename_i hc
      have h1 : 1 < l.length := by unfold coreC at hc; simp only [Bool.and_eq_true, decide_eq_true_eq] at hc; exact hc.1
      exact coreF_core m _ (by rw [core_len]; omega)
    · rename_i hc; simpa using hc
theorem core_core (l : List UInt8) : coreL (coreL l) = coreL l := coreF_false (coreF_core l.length l (Nat.le_refl _)) _
theorem core_le (l : List UInt8) : (coreL l).length ≤ l.length := coreF_len _ _
theorem core_ends {l : List UInt8} (hl : letL l = true) (hc : coreC l = true) : ∃ c, letB c = true ∧ l = [turnB c] ++ l.tail.dropLast ++ [c] := by
  have h1 : 1 < l.length := by unfold coreC at hc; simp only [Bool.and_eq_true, decide_eq_true_eq] at hc; exact hc.1
  obtain ⟨p, c, rfl⟩ := last_split l (by omega)
  cases p with
  | nil => simp at h1
  | cons x q =>
    have hx : x = turnB c := by
      unfold coreC at hc
      simp only [Bool.and_eq_true, decide_eq_true_eq] at hc
      have h2 := hc.2
      have e : (x :: q ++ [c]).getLast? = some c := List.getLast?_concat
      rw [e] at h2
      simpa using h2
    refine ⟨c, letL_get _ hl ((x :: q ++ [c]).length - 1) (by simp) |> fun h => by simpa using h, ?_⟩
    subst hx
    simp
theorem coreF_word : ∀ (m : Nat) (l : List UInt8), letL l = true → noC l → letL (coreF m l) = true ∧ noC (coreF m l)
  | 0, l, h1, h2 => ⟨h1, h2⟩
  | m + 1, l, h1, h2 => by
    rw [coreF]
    split
    · rename_i hc
      obtain ⟨c, _, e⟩ := core_ends h1 hc
      refine coreF_word m _ (letL_core l h1) ?_
      rw [e] at h2
      intro p x y q h3
      refine h2 (turnB c :: p) x y (q ++ [c]) ?_
      rw [h3]; simp
    · exact ⟨h1, h2⟩
theorem core_word {l : List UInt8} (h : wordB l = true) : wordB (coreL l) = true := by
  obtain ⟨h1, h2, h3⟩ := (wordB_iff _).1 h
  obtain ⟨h4, h5⟩ := coreF_word l.length l h2 ((red_iff _).1 h3)
  refine (wordB_iff _).2 ⟨by have := core_le l; omega, h4, (red_iff _).2 h5⟩
theorem coreF_sg (i : Nat) : ∀ (m : Nat) (l : List UInt8), letL l = true → sgL i (coreF m l) = sgL i l
  | 0, l, h1 => rfl
  | m + 1, l, h1 => by
    rw [coreF]
    split
    · rename_i hc
      obtain ⟨c, hcl, e⟩ := core_ends h1 hc
      have h2 := coreF_sg i m _ (letL_core l h1)
      rw [h2]
      have h3 : sgL i l = sgL i ([turnB c] ++ l.tail.dropLast ++ [c]) := congrArg _ e
      rw [sgL_append, sgL_append, sgL_turn i hcl] at h3
      omega
    · rfl
theorem sums_core {l : List UInt8} (h : letL l = true) (h2 : letL (coreL l) = true) : sumsL (coreL l) = sumsL l := sums_eq h2 h fun i _ => coreF_sg i _ l h
/-! ### Putting -/
theorem img_turn (zs : List ByteArray) (hz : ∀ z ∈ zs, wordB z.data.toList = true) {c : UInt8} (hc : letB c = true) : imgL zs (turnB c) = backL (imgL zs c) := by
  have hl : letL (zs.getD (idxB c) ByteArray.empty).data.toList = true := by
    rw [List.getD_eq_getElem?_getD]
    cases h : zs[idxB c]? with
    | none => rfl
    | some z => exact ((wordB_iff _).1 (hz z (List.mem_of_getElem? h))).2.1
  have hi := (sg_turn hc).1
  unfold imgL
  rw [hi]
  have h := (letB_iff c).1 hc
  rcases h with h | h
  · have := turnB_hi c h.1
    rw [if_pos (by omega), if_neg (by omega)]
  · have := turnB_lo c (by omega)
    rw [if_neg (by omega), if_pos (by omega), back_back _ hl]
theorem putL_append (zs : List ByteArray) (a b : List UInt8) : putL zs (a ++ b) = putL zs a ++ putL zs b := by simp [putL]
theorem put_back (zs : List ByteArray) (hz : ∀ z ∈ zs, wordB z.data.toList = true) : ∀ s : List UInt8, letL s = true → putL zs (backL s) = backL (putL zs s)
  | [], _ => rfl
  | c :: s, h => by
    rw [letL_cons, Bool.and_eq_true] at h
    have e : backL (c :: s) = backL s ++ [turnB c] := by simp [backL]
    have e1 : putL zs [turnB c] = imgL zs (turnB c) := by simp [putL]
    have e2 : putL zs (c :: s) = imgL zs c ++ putL zs s := by simp [putL]
    rw [e, putL_append, put_back zs hz s h.2, e1, img_turn zs hz h.1, e2, backL_append]
def abcd : List ByteArray := [{ data := #[97] }, { data := #[98] }, { data := #[99] }, { data := #[100] }]
theorem abcd_four : fourB abcd = true := by decide +kernel
theorem abcd_tab : ∀ n : Fin 256, letB (UInt8.ofNat n.val) = true → imgL abcd (UInt8.ofNat n.val) = [UInt8.ofNat n.val] := by decide +kernel
theorem abcd_img {c : UInt8} (h : letB c = true) : imgL abcd c = [c] := by
  have := abcd_tab ⟨c.toNat, c.toNat_lt⟩
  simp only [UInt8.ofNat_toNat] at this
  exact this h
theorem abcd_put : ∀ s : List UInt8, letL s = true → putL abcd s = s
  | [], _ => rfl
  | c :: s, h => by
    rw [letL_cons, Bool.and_eq_true] at h
    have e2 : putL abcd (c :: s) = imgL abcd c ++ putL abcd s := by simp [putL]
    rw [e2, abcd_img h.1, abcd_put s h.2]; rfl
theorem put_let (zs : List ByteArray) (hz : ∀ z ∈ zs, wordB z.data.toList = true) (s : List UInt8) : letL (putL zs s) = true := (putX_eq zs s hz).2

/-! ### Words of letters that reduce to few -/
theorem word_of_red {s : List UInt8} (hl : letL s = true) (h : (redL [] s).length ≤ 60) : wordB (redL [] s) = true := (wordB_iff _).2 ⟨h, letL_red2 s [] hl rfl, red_red s⟩
theorem word_back {s : List UInt8} (h : wordB s = true) : wordB (backL s) = true := by
  obtain ⟨h1, h2, h3⟩ := (wordB_iff _).1 h
  exact (wordB_iff _).2 ⟨by rw [backL_length]; exact h1, letL_back s h2, red_back s h2 h3⟩

end Go.Proofs.YtdhmicpoigoleabDoor

/- The contracts of the model's 'l91Four' and 'DrawWordPut'. -/

namespace Go.Proofs.YtdhmicpoigoleabDoor
open Go.RowKit Go.Shelf

theorem Rd.past {base N : Nat} {w w' : World} {rb : Nat} {a : Option Addr} {n cap : Nat} {zs : List Int} {p : Nat} (h : Rd base w rb a n cap zs p) (hb : Below N w w') (hN : rb < N) : Rd base w' rb a n cap zs p :=
  ⟨h.lo, (hb.block rb hN).trans h.box, h.data.below (hb.mono (Nat.le_of_lt (Nat.lt_of_le_of_lt h.lo hN))), h.short⟩
theorem ownS_made2 (w : World) : OwnS w.heap.size (w.alloc (.cells #[] 9)) (.slice (some ⟨w.heap.size, 0, none⟩) 0 0) [] :=
  World.ownsRow_made w #[] 0 (Nat.le_refl _) (Nat.zero_le _) rfl
theorem OwnS.kept {base : Nat} {w w' : World} {v : Value} {zs : List ByteArray} (h : OwnS base w v zs) {rb : Nat} (hg : w.grownBy w' (some rb)) (hr : rb < base) : OwnS base w' v zs :=
  World.ownsRow.kept h hg (by
    cases hv : v.ownBlock with
    | none => exact .inl rfl
    | some k => exact .inr fun e => by have := (h.lt k hv).1; cases e; omega)

theorem StrsIn.taken {w : World} {g n : Nat} {zs : List ByteArray} (h : StrsIn w (some ⟨g, 0, none⟩) g n zs) (k : Nat) (hk : k ≤ n) : StrsIn w (some ⟨g, 0, none⟩) g k (zs.take k) :=
  ⟨by rw [List.length_take, h.len]; omega, fun _ => rfl, h.blk, fun i hi => by rw [List.getElem_take]; exact h.cells i (by rw [List.length_take] at hi; omega), fun s hs => h.small s (List.mem_of_mem_take hs)⟩
theorem StrsIn.at_ {w : World} {g n : Nat} {zs : List ByteArray} (h : StrsIn w (some ⟨g, 0, none⟩) g n zs) : StrsAt w (some ⟨g, 0, none⟩) zs :=
  ⟨fun _ => ⟨_, rfl, h.blk, fun i hi => by
    have e : (⟨g, 0, none⟩ : Addr).add i = ⟨g, i, none⟩ := by unfold Addr.add; split <;> simp_all
    rw [e]; exact h.cells i hi⟩, h.small⟩
theorem strsIn_abcd (w : World) : StrsIn (w.alloc (.cells #[.string { data := #[97] }, .string { data := #[98] }, .string { data := #[99] }, .string { data := #[100] }] 9)) (some ⟨w.heap.size, 0, none⟩) w.heap.size 4 abcd :=
  ⟨rfl, fun _ => rfl, by simp, fun j hj => by
    have hj4 : j < 4 := hj
    rcases (show j = 0 ∨ j = 1 ∨ j = 2 ∨ j = 3 by omega) with rfl | rfl | rfl | rfl <;> exact (World.cell?_alloc_at _ _ _ _ (by simp)).trans rfl, by
    have : ∀ s ∈ abcd, s.size = 1 := by decide
    intro s hs
    rw [this s hs]; unfold maxLen; omega⟩

/-- Few texts that lie in a block of the call's own. -/
def FourS (base : Nat) (w' : World) (v : Value) : Prop := ∃ g c n zs, v = .slice (some ⟨g, 0, none⟩) n c ∧ base ≤ g ∧ StrsIn w' (some ⟨g, 0, none⟩) g n zs ∧ n ≤ 4 ∧ ∀ z ∈ zs, z.size ≤ 4

theorem _root_.Go.World.grownBy.past {w w1 w2 : World} {rb N : Nat} (hg : w.grownBy w1 (some rb)) (hb : Below N w1 w2) (hN : w.heap.size ≤ N := by omega) : w.grownBy w2 (some rb) :=
  ⟨hb.os.trans hg.os, hb.tape.trans hg.tape, hb.output.trans hg.output, Nat.le_trans hg.size hb.size, fun k hk hne => (hb.block k (by omega)).trans (hg.block k hk hne)⟩
theorem FourS.mono {b1 b2 : Nat} {w : World} {v : Value} (h : FourS b1 w v) (hb : b2 ≤ b1) : FourS b2 w v := by
  obtain ⟨g, c, n, ts, rfl, h1, h2⟩ := h
  exact ⟨g, c, n, ts, rfl, Nat.le_trans hb h1, h2⟩

end Go.Proofs.YtdhmicpoigoleabDoor

/- The contracts of the model's and of the program's 'SumPlain'. -/

namespace Go.Proofs.YtdhmicpoigoleabDoor
open Go.RowKit Go.Shelf

/-- The sum of all coefficients. -/
def plainZ (ts : List Tm) : Int := (ts.map Tm.c).sum
theorem plainZ_succ (ts : List Tm) (k : Nat) (h : k < ts.length) : plainZ (ts.take (k + 1)) = plainZ (ts.take k) + ts[k].c := by
  unfold plainZ; rw [List.take_succ_eq_append_getElem h, List.map_append, List.sum_append]; simp
theorem sumB_coef {ts : List Tm} (h : sumB ts = true) : ts.length ≤ 300 ∧ ∀ j (hj : j < ts.length), -1000000 ≤ ts[j].c ∧ ts[j].c ≤ 1000000 := by
  unfold sumB allGood at h
  simp only [Bool.and_eq_true, List.all_eq_true, List.mem_range, decide_eq_true_eq] at h
  refine ⟨h.2, fun j hj => ?_⟩
  have := h.1 j hj
  unfold goodAt inR at this
  rw [List.getD_eq_getElem?_getD, List.getElem?_eq_getElem hj] at this
  simp at this
  exact this.1.1.2
theorem ret_plain {z z' : Int} (h : z' = z) : Ending.returned (.tuple #[.int .i64 z, .bool true]) = .returned (.tuple #[.int .i64 z', .bool true]) := by rw [h]
def plainV (b : Bool) (z : Int) : Value := if b then .tuple #[.int .i64 z, .bool true] else .tuple #[.int .i64 0, .bool false]

end Go.Proofs.YtdhmicpoigoleabDoor

/- The algebra of sums: functionals, products, maps of words, all up to the order of terms. -/

namespace Go.Proofs.YtdhmicpoigoleabDoor
open Go.RowKit

theorem plain_is : ∀ ts : List Tm, plainZ ts = linT (fun _ => 1) ts
  | [] => rfl
  | t :: r => by
    have := plain_is r
    unfold plainZ at *
    rw [List.map_cons, List.sum_cons, linT, this]; omega
theorem linT_scl (f : ByteArray → Int) (c : Int) : ∀ ts, linT f (scaleT c ts) = c * linT f ts
  | [] => by simp [scaleT, linT]
  | t :: r => by
    have ih := linT_scl f c r
    unfold scaleT at *
    rw [List.map_cons, linT, linT, ih, Int.mul_add, Int.mul_assoc]
theorem linT_add2 (f g : ByteArray → Int) : ∀ ts, linT (fun s => f s + g s) ts = linT f ts + linT g ts
  | [] => by simp [linT]
  | t :: r => by rw [linT, linT, linT, linT_add2 f g r, Int.mul_add]; omega
theorem linT_mul (c : Int) (f : ByteArray → Int) : ∀ ts, linT (fun s => c * f s) ts = c * linT f ts
  | [] => by simp [linT]
  | t :: r => by rw [linT, linT, linT_mul c f r, Int.mul_add, Int.mul_left_comm]
theorem linT_zero : ∀ ts, linT (fun _ => 0) ts = 0
  | [] => rfl
  | t :: r => by rw [linT, linT_zero r]; simp
theorem linT_congr {f g : ByteArray → Int} : ∀ {ts : List Tm}, (∀ t ∈ ts, f t.s = g t.s) → linT f ts = linT g ts
  | [], _ => rfl
  | t :: r, h => by rw [linT, linT, h t (by simp), linT_congr (ts := r) fun u hu => h u (by simp [hu])]
/-- In whichever order. -/
theorem linT_swap (F : ByteArray → ByteArray → Int) (y : List Tm) : ∀ x : List Tm, linT (fun s => linT (fun r => F s r) y) x = linT (fun r => linT (fun s => F s r) x) y
  | [] => by simp only [linT]; exact (linT_zero y).symm
  | t :: x => by
    rw [linT, linT_swap F y x]
    have e : (fun r => linT (fun s => F s r) (t :: x)) = fun r => t.c * F t.s r + linT (fun s => F s r) x := by funext r; rw [linT]
    rw [e, linT_add2, linT_mul]
def hitB (q s : ByteArray) : Int := if s = q then 1 else 0
theorem coef_lin (q : ByteArray) : ∀ ts, coefAt q ts = linT (hitB q) ts
  | [] => rfl
  | t :: r => by
    rw [coefAt, linT, coef_lin q r]
    unfold hitB
    split <;> omega
def mulB (s r : ByteArray) : ByteArray := bstr (redL [] (s.data.toList ++ r.data.toList))
theorem lin_row (f : ByteArray → Int) (t : Tm) : ∀ y : List Tm, linT f (y.map (pairT t)) = t.c * linT (fun r => f (mulB t.s r)) y
  | [] => by simp [linT]
  | u :: y => by
    rw [List.map_cons, linT, linT, lin_row f t y, Int.mul_add]
    show t.c * u.c * f (mulB t.s u.s) + _ = _
    rw [Int.mul_assoc]
theorem lin_pairs (f : ByteArray → Int) (y : List Tm) : ∀ x : List Tm, linT f (pairsT x y) = linT (fun s => linT (fun r => f (mulB s r)) y) x
  | [] => rfl
  | t :: x => by
    have e : pairsT (t :: x) y = y.map (pairT t) ++ pairsT x y := by unfold pairsT; rw [List.flatMap_cons]
    rw [e, linT_append, lin_row, lin_pairs f y x, linT]
theorem lin_map (f : ByteArray → Int) (g : List UInt8 → List UInt8) : ∀ x : List Tm, linT f (x.map (mapT g)) = linT (fun s => f (bstr (g s.data.toList))) x
  | [] => rfl
  | t :: x => by rw [List.map_cons, linT, linT, lin_map f g x]; rfl
/-- Two lists of terms that are the same up to order. -/
def Same (x y : List Tm) : Prop := ∀ f : ByteArray → Int, linT f x = linT f y
theorem Same.refl (x : List Tm) : Same x x := fun _ => rfl
theorem Same.symm {x y : List Tm} (h : Same x y) : Same y x := fun f => (h f).symm
theorem Same.trans {x y z : List Tm} (h : Same x y) (h2 : Same y z) : Same x z := fun f => (h f).trans (h2 f)
theorem Same.canon (x : List Tm) : Same (canonT x) x := fun f => linT_canon f x
theorem Same.eq {x y : List Tm} (h : Same x y) : canonT x = canonT y := canonT_congr fun s => by rw [coef_lin, coef_lin]; exact h _
theorem Same.eq_of {x y : List Tm} (h : Same x y) (hy : Canon y) : canonT x = y := by rw [h.eq, canon_id hy]
theorem Same.pairs {x x' y y' : List Tm} (h : Same x x') (h2 : Same y y') : Same (pairsT x y) (pairsT x' y') := fun f => by
  rw [lin_pairs, lin_pairs, h]
  refine congrArg (fun k => linT k x') ?_
  funext s; exact h2 _
theorem Same.map {x x' : List Tm} (h : Same x x') (g : List UInt8 → List UInt8) : Same (x.map (mapT g)) (x'.map (mapT g)) := fun f => by rw [lin_map, lin_map]; exact h _
theorem Same.append {x x' y y' : List Tm} (h : Same x x') (h2 : Same y y') : Same (x ++ y) (x' ++ y') := fun f => by rw [linT_append, linT_append, h, h2]
theorem same_comm (x y : List Tm) : Same (x ++ y) (y ++ x) := fun f => by rw [linT_append, linT_append]; omega
theorem Same.scale {x x' : List Tm} (h : Same x x') (c : Int) : Same (scaleT c x) (scaleT c x') := fun f => by rw [linT_scl, linT_scl, h]
theorem same_of_coef {x y : List Tm} (h : ∀ q, coefAt q x = coefAt q y) : Same x y := fun f => linT_same h f
theorem same_perm {x y : List Tm} (h : x.Perm y) : Same x y := same_of_coef fun q => coefAt_perm q h
theorem same_pairs_add (x y z : List Tm) : Same (pairsT x (y ++ z)) (pairsT x y ++ pairsT x z) := fun f => by
  rw [linT_append, lin_pairs, lin_pairs, lin_pairs, ← linT_add2]
  refine congrArg (fun k => linT k x) ?_
  funext s; exact linT_append _ y z
theorem plain_same {x y : List Tm} (h : Same x y) : plainZ x = plainZ y := by rw [plain_is, plain_is]; exact h _
theorem plain_canon (x : List Tm) : plainZ (canonT x) = plainZ x := plain_same (Same.canon x)
theorem plain_append (x y : List Tm) : plainZ (x ++ y) = plainZ x + plainZ y := by rw [plain_is, plain_is, plain_is, linT_append]
theorem linT_const (c : Int) (ts : List Tm) : linT (fun _ => c) ts = c * plainZ ts := by
  rw [plain_is, ← linT_mul]; simp
theorem plain_pairs (x y : List Tm) : plainZ (pairsT x y) = plainZ x * plainZ y := by
  rw [plain_is, lin_pairs]
  have e : (fun _ : ByteArray => linT (fun _ => 1) y) = fun _ => plainZ y := by funext _; rw [plain_is]
  rw [e, linT_const, Int.mul_comm]
theorem plain_map (g : List UInt8 → List UInt8) (x : List Tm) : plainZ (x.map (mapT g)) = plainZ x := by rw [plain_is, plain_is, lin_map]

/-! ### Words in sums -/
def WordsT (x : List Tm) : Prop := ∀ t ∈ x, wordB t.s.data.toList = true
theorem words_of_tw {x : List Tm} (h : twB x = true) : WordsT x := fun t ht => by
  unfold twB at h
  simp only [Bool.and_eq_true] at h
  have := List.all_eq_true.1 h.2 t ht
  unfold termB at this
  simp only [Bool.and_eq_true] at this
  exact this.1
theorem words_of_sum {x : List Tm} (h : sumB x = true) : WordsT x := words_of_tw (sumB_parts h).1
theorem canon_of_sum {x : List Tm} (h : sumB x = true) : Canon x := (sumB_parts h).2
theorem sum_id {x : List Tm} (h : sumB x = true) : canonT x = x := canon_id (canon_of_sum h)
theorem sum_of_tw {x : List Tm} (h : twB (canonT x) = true) : sumB (canonT x) = true := by rw [sumB_canon (canonT_spec x).1]; exact h
theorem map_id_same {x : List Tm} {g : List UInt8 → List UInt8} (h : ∀ t ∈ x, g t.s.data.toList = t.s.data.toList) : x.map (mapT g) = x := by
  refine (List.map_congr_left fun t ht => ?_).trans (List.map_id x)
  show mapT g t = t
  unfold mapT
  rw [h t ht, bstr_of]
theorem map_map_same {x : List Tm} {g k : List UInt8 → List UInt8} (h : ∀ t ∈ x, k (g t.s.data.toList) = t.s.data.toList) : (x.map (mapT g)).map (mapT k) = x := by
  rw [List.map_map]
  refine (List.map_congr_left fun t ht => ?_).trans (List.map_id x)
  show (⟨t.c, bstr (k (bstr (g t.s.data.toList)).data.toList)⟩ : Tm) = t
  rw [bstr_toList, h t ht, bstr_of]
def oneS (s : ByteArray) : List Tm := [⟨1, s⟩]
theorem pairs_one {x : List Tm} (h : WordsT x) : pairsT x (oneS noS) = x := by
  induction x with
  | nil => rfl
  | cons t r ih =>
    have e : pairsT (t :: r) (oneS noS) = (oneS noS).map (pairT t) ++ pairsT r (oneS noS) := by unfold pairsT; rw [List.flatMap_cons]
    rw [e, ih fun u hu => h u (by simp [hu])]
    have e2 : pairT t ⟨1, noS⟩ = t := by
      unfold pairT
      have h0 : (noS : ByteArray).data.toList = [] := rfl
      show (⟨t.c * 1, bstr (redL [] (t.s.data.toList ++ noS.data.toList))⟩ : Tm) = t
      rw [h0, List.append_nil, ((wordB_iff _).1 (h t (by simp))).2.2, bstr_of, Int.mul_one]
    show [pairT t ⟨1, noS⟩] ++ r = t :: r
    rw [e2]; rfl
theorem back_mul {s r : ByteArray} (hs : letL s.data.toList = true) (hr : letL r.data.toList = true) : bstr (backL (mulB s r).data.toList) = mulB (bstr (backL r.data.toList)) (bstr (backL s.data.toList)) := by
  unfold mulB
  rw [bstr_toList, bstr_toList, bstr_toList, back_red (by rw [letL_append, hs, hr]; rfl), backL_append]
/-- Turned products are products the other way. -/
theorem turned_pairs {x y : List Tm} (hx : WordsT x) (hy : WordsT y) : Same ((pairsT x y).map (mapT backL)) (pairsT (y.map (mapT backL)) (x.map (mapT backL))) := fun f => by
  rw [lin_map, lin_pairs, lin_pairs, lin_map, linT_swap]
  refine linT_congr fun u hu => ?_
  rw [lin_map]
  refine linT_congr fun t ht => ?_
  rw [back_mul ((wordB_iff _).1 (hx t ht)).2.1 ((wordB_iff _).1 (hy u hu)).2.1]

end Go.Proofs.YtdhmicpoigoleabDoor

/- The contracts of the program's 'SumAdd'; both SumAdds as a law wants them. -/

namespace Go.Proofs.YtdhmicpoigoleabDoor
open Go.RowKit Go.Shelf

theorem sumB_small {x : List Tm} (h : sumB x = true) : x.length ≤ 300 ∧ (∀ t ∈ x, t.s.size ≤ 60 ∧ -1000000 ≤ t.c ∧ t.c ≤ 1000000) ∧ SmallT x := by
  obtain ⟨h1, h2⟩ := canon_len_words (sumB_parts h).1
  have h3 : ∀ t ∈ x, t.s.size ≤ 60 ∧ -1000000 ≤ t.c ∧ t.c ≤ 1000000 := fun t ht => termB_iff (h2 t ht)
  exact ⟨h1, h3, by unfold maxLen; omega, fun t ht => by have := h3 t ht; unfold maxLen; omega⟩
theorem told_small {b : Bool} {L us : List Tm} (h : b = true → twB L = true) (hus : cond b L [] = us) : SmallT us ∧ us.length ≤ 300 := by
  cases b with
  | false => subst hus; exact ⟨⟨Nat.zero_le _, fun t h => by cases h⟩, Nat.zero_le _⟩
  | true =>
    have hus : L = us := hus
    subst hus
    obtain ⟨h1, h2⟩ := canon_len_words (h rfl)
    exact ⟨⟨by unfold maxLen; omega, fun t ht => by have := termB_iff (h2 t ht); unfold maxLen; omega⟩, h1⟩

theorem two_cells (w : World) (u v : Value) (x y : List Tm) (t : TypeId) : ∀ i (h : i < [(u, x), (v, y)].length), (w.alloc (.cells #[u, v] t)).cell? ⟨w.heap.size, i, none⟩ = some [(u, x), (v, y)][i].1 := fun i h => by
  rw [World.cell?_alloc_at _ _ _ _ rfl]
  match i, h with
  | 0, _ => rfl
  | 1, _ => rfl
theorem addB_tw {x y : List Tm} {b : Bool} (h : addB x y = b) : b = true → twB (canonT (x ++ y)) = true := by
  intro hb
  subst hb
  unfold addB at h
  simp only [Bool.and_eq_true] at h
  exact h.2.2
end Go.Proofs.YtdhmicpoigoleabDoor

/- The contracts of the program's 'SumTimes'; both SumTimes as a law wants them. -/

namespace Go.Proofs.YtdhmicpoigoleabDoor
open Go.RowKit Go.Shelf

/-- A row of words, those of the terms. -/
def WordsAt (w : World) (g : Nat) (ts : List Tm) : Prop :=
  g < w.heap.size ∧ ∀ j (h : j < ts.length), ∃ gw cap, w.cell? ⟨g, j, none⟩ = some (.slice (some ⟨gw, 0, none⟩) ts[j].s.size cap) ∧ IsWord w.heap.size w (.slice (some ⟨gw, 0, none⟩) ts[j].s.size cap) ts[j].s.data.toList
theorem WordsAt.below {w w' : World} {g : Nat} {ts : List Tm} (h : WordsAt w g ts) (hb : Below w.heap.size w w') : WordsAt w' g ts :=
  ⟨Nat.lt_of_lt_of_le h.1 hb.size, fun j hj => by
    obtain ⟨gw, cap, h1, h2⟩ := h.2 j hj
    exact ⟨gw, cap, (hb.cell (p := ⟨g, j, none⟩) h.1).trans h1, (h2.below hb).mono hb.size⟩⟩
def prodB (x y : List Tm) : Bool := sumB x && (sumB y && (fitB (pairsT x y) && twB (canonT (pairsT x y))))

theorem prodB_tw {x y : List Tm} {b : Bool} (h : prodB x y = b) : b = true → twB (canonT (pairsT x y)) = true := by
  intro hb
  subst hb
  unfold prodB at h
  simp only [Bool.and_eq_true] at h
  exact h.2.2.2
end Go.Proofs.YtdhmicpoigoleabDoor

/- The contracts of the program's 'changed' and 'SumTurned'; both SumTurneds as a law wants them. -/

namespace Go.Proofs.YtdhmicpoigoleabDoor
open Go.RowKit Go.Shelf

/-- A function value that changes words, from w on. -/
def ChangeOk (w0 : World) (F : Nat) (lb : Array Value) (f : List UInt8 → List UInt8) : Prop :=
  ∀ (W : World) (g n cap : Nat) (L : List UInt8), Below w0.heap.size w0 W → L.length = n → wordB L = true → IsWord W.heap.size W (.slice (some ⟨g, 0, none⟩) n cap) L →
    Calls Tryd.prog F (#[.slice (some ⟨g, 0, none⟩) n cap] ++ lb) W fun e w' => ∃ g4 m cap4, e = .returned (.slice (some ⟨g4, 0, none⟩) m cap4) ∧ (f L).length = m ∧ m ≤ 100000 ∧ w'.ownsRow W.heap.size 131 1 (.slice (some ⟨g4, 0, none⟩) m cap4) m (bytesV (f L)) ∧ Below W.heap.size W w'

theorem fit_turned {x : List Tm} (h : sumB x = true) : fitB (x.map (mapT backL)) = true := by
  refine List.all_eq_true.2 fun t ht => ?_
  obtain ⟨u, hu, rfl⟩ := List.mem_map.1 ht
  have h1 := (sumB_small h).2.1 u hu
  unfold mapT
  simp only [bstr_size, backL_length]
  have : u.s.data.toList.length = u.s.size := by simp
  simpa [this] using h1.1

def turnedB (x : List Tm) : Bool := sumB x && twB (canonT (x.map (mapT backL)))

theorem turnedB_tw {x : List Tm} {b : Bool} (h : turnedB x = b) : b = true → twB (canonT (x.map (mapT backL))) = true := by
  intro hb
  subst hb
  unfold turnedB at h
  simp only [Bool.and_eq_true] at h
  exact h.2
end Go.Proofs.YtdhmicpoigoleabDoor

/- The contracts of the program's 'SumPut'; both SumPuts as a law wants them. -/

namespace Go.Proofs.YtdhmicpoigoleabDoor
open Go.RowKit Go.Shelf

theorem StrsIn.strsAt {w : World} {g n : Nat} {zs : List ByteArray} (h : StrsIn w (some ⟨g, 0, none⟩) g n zs) : StrsAt w (some ⟨g, 0, none⟩) zs :=
  ⟨fun _ => ⟨_, rfl, h.blk, fun i hi => by
    have ha : (⟨g, 0, none⟩ : Addr).add i = ⟨g, i, none⟩ := by unfold Addr.add; split <;> simp_all
    rw [ha]; exact h.cells i hi⟩, h.small⟩
theorem strsIn_owns {w : World} {base g n : Nat} {a : Option Addr} {w0 : World} {zs : List ByteArray} (h0 : IsStrs w0 a n zs) (h : w.ownsRow base 9 1 (.slice (some ⟨g, 0, none⟩) n n) n (strsV zs)) : StrsIn w (some ⟨g, 0, none⟩) g n zs := by
  obtain ⟨_, h2, h3⟩ := strsAt_of_owns h0.len h h0.at_.small
  exact ⟨h0.len, fun _ => rfl, h2, h3, h0.at_.small⟩

def sumPutB (x : List Tm) (zs : List ByteArray) : Bool := sumB x && (fourB zs && (fitB (x.map (mapT (putF zs))) && twB (canonT (x.map (mapT (putF zs))))))

theorem sumPutB_tw {x : List Tm} {zs : List ByteArray} {b : Bool} (h : sumPutB x zs = b) : b = true → twB (canonT (x.map (mapT (putF zs)))) = true := by
  intro hb
  subst hb
  unfold sumPutB at h
  simp only [Bool.and_eq_true] at h
  exact h.2.2.2
end Go.Proofs.YtdhmicpoigoleabDoor

/- What the laws on lists of terms need about rows of the call's own. -/

namespace Go.Proofs.YtdhmicpoigoleabDoor
open Go.RowKit Go.Shelf

theorem isTerms_owns {w : World} {base g cap n : Nat} {a : Option Addr} {w0 : World} {ts : List Tm} (h0 : IsTerms w0 a n ts) (h : w.ownsRow base TI 2 (.slice (some ⟨g, 0, none⟩) n cap) n (termsV ts)) : IsTerms w (some ⟨g, 0, none⟩) n ts :=
  ⟨h0.len, h0.max, fun _ => ⟨_, rfl, termsAt_of_owns h0.len h⟩, h0.small⟩
theorem ownIsTerms {base : Nat} {w : World} {a : Option Addr} {n c : Nat} {ts : List Tm} (h : OwnT base w (.slice a n c) ts) (hs : SmallT ts) : IsTerms w a n ts := by
  obtain ⟨a', c', e, hI⟩ := h.isTerms hs
  simp only [Value.slice.injEq] at e
  obtain ⟨rfl, rfl, rfl⟩ := e
  exact hI
theorem IsTerms.smallT {w : World} {a : Option Addr} {n : Nat} {ts : List Tm} (h : IsTerms w a n ts) : SmallT ts := ⟨by rw [h.len]; exact h.max, h.small⟩
theorem OwnT.keptBy {base : Nat} {w w' : World} {v : Value} {ts : List Tm} {row : Option Nat} (h : OwnT base w v ts) (hg : w.grownBy w' row) (hne : v.ownBlock = row → False) : OwnT base w' v ts := World.ownsRow.kept h hg (.inr hne)
theorem OwnS.keptBy {base : Nat} {w w' : World} {v : Value} {ts : List ByteArray} {row : Option Nat} (h : OwnS base w v ts) (hg : w.grownBy w' row) (hne : v.ownBlock = row → False) : OwnS base w' v ts := World.ownsRow.kept h hg (.inr hne)
theorem IsStrs.below {w w' : World} {a : Option Addr} {n : Nat} {zs : List ByteArray} (h : IsStrs w a n zs) (hb : Below w.heap.size w w') : IsStrs w' a n zs := ⟨h.len, h.max, h.at_.below hb⟩
theorem isStrs_owns {w : World} {base g n : Nat} {a : Option Addr} {w0 : World} {zs : List ByteArray} (h0 : IsStrs w0 a n zs) (h : w.ownsRow base 9 1 (.slice (some ⟨g, 0, none⟩) n n) n (strsV zs)) : IsStrs w (some ⟨g, 0, none⟩) n zs :=
  ⟨h0.len, h0.max, (strsAt_of_owns h0.len h h0.at_.small).1⟩
theorem ownIsStrs {base : Nat} {w w0 : World} {a : Option Addr} {g n : Nat} {zs : List ByteArray} (h0 : IsStrs w0 a n zs) (h : OwnS base w (.slice (some ⟨g, 0, none⟩) n n) zs) : StrsAt w (some ⟨g, 0, none⟩) zs := by
  unfold OwnS at h
  rw [h0.len] at h
  exact (strsAt_of_owns h0.len h h0.at_.small).1

end Go.Proofs.YtdhmicpoigoleabDoor

/- Lists of lists of terms in memory; the contracts of the laws' own helpers on them. -/

namespace Go.Proofs.YtdhmicpoigoleabDoor
open Go.RowKit Go.Shelf

abbrev TT : TypeId := 23
theorem infoTerms : (Tryd.prog.info? TT).map (fun i => (i.zero, i.size, i.bytes)) = some (some (.slice none 0 0), 1, 24) := by kernel_rfl

def total (rows : List (List Tm)) : Nat := (rows.map List.length).sum
theorem total_succ (rows : List (List Tm)) (k : Nat) (h : k < rows.length) : total (rows.take (k + 1)) = total (rows.take k) + rows[k].length := by
  unfold total; rw [List.take_succ_eq_append_getElem h, List.map_append, List.sum_append]; simp
theorem total_take_le : ∀ (rows : List (List Tm)) (k : Nat), total (rows.take k) ≤ total rows
  | [], k => by simp [total]
  | r :: rs, 0 => by simp [total]
  | r :: rs, k + 1 => by have := total_take_le rs k; unfold total at *; simp only [List.take_succ_cons, List.map_cons, List.sum_cons]; omega
theorem total_get (rows : List (List Tm)) (k : Nat) (h : k < rows.length) : total (rows.take k) + rows[k].length ≤ total rows := by
  rw [← total_succ rows k h]; exact total_take_le rows (k + 1)

/-- A slice of slices of terms. -/
structure IsTT (w : World) (a : Option Addr) (n : Nat) (rows : List (List Tm)) : Prop where
  len : rows.length = n
  max : n ≤ maxLen
  at_ : 0 < n → ∃ x, a = some x ∧ x.block < w.heap.size ∧ ∀ i (h : i < rows.length), ∃ ai ci, w.cell? (x.add i) = some (.slice ai rows[i].length ci) ∧ IsTerms w ai rows[i].length rows[i]
theorem IsTT.below {w w' : World} {a : Option Addr} {n : Nat} {rows : List (List Tm)} (h : IsTT w a n rows) (hb : Below w.heap.size w w') : IsTT w' a n rows :=
  ⟨h.len, h.max, fun h0 => by
    obtain ⟨x, e, hx, hc⟩ := h.at_ h0
    refine ⟨x, e, Nat.lt_of_lt_of_le hx hb.size, fun i hi => ?_⟩
    obtain ⟨ai, ci, h1, h2⟩ := hc i hi
    exact ⟨ai, ci, (hb.cell (p := x.add i) (by rw [addr_add_block]; exact hx)).trans h1, h2.below hb⟩⟩
theorem IsTT.none (w : World) (a : Option Addr) : IsTT w a 0 [] := ⟨rfl, Nat.zero_le _, fun h => absurd h (Nat.lt_irrefl _)⟩

/-! ### Rows of the call's own -/
theorem ownsRow_touched {w w' : World} {base : Nat} {e : TypeId} {size : Nat} {v : Value} {n : Nat} {xs : List Value} (h : w.ownsRow base e size v n xs) (ht : ∀ b, v.ownBlock = some b → b < w.heap.size → w'.heap[b]? = w.heap[b]?) : w'.ownsRow base e size v n xs := by
  refine ⟨h.1, ?_⟩
  rcases h.2 with ⟨rfl, h0⟩ | ⟨g, cap, cur, rfl, hb, hg, h3⟩
  · exact .inl ⟨rfl, h0⟩
  · exact .inr ⟨g, cap, cur, rfl, hb, (ht g rfl (Array.getElem?_eq_some_iff.1 hg).1).trans hg, h3⟩
structure OwnTT (lo : Nat) (w : World) (v : Value) (vals : List Value) (rows : List (List Tm)) : Prop where
  row : w.ownsRow lo TT 1 v rows.length vals
  each : ∀ (i : Nat) (h : i < rows.length) (u : Value), vals[i]? = some u → OwnT lo w u rows[i]
  apart : ∀ (i j : Nat) (u x : Value) (b : Nat), vals[i]? = some u → vals[j]? = some x → i ≠ j → u.ownBlock = some b → x.ownBlock = some b → False
  head : ∀ (i : Nat) (u : Value) (b : Nat), vals[i]? = some u → v.ownBlock = some b → u.ownBlock = some b → False
theorem OwnTT.val {lo : Nat} {w : World} {v : Value} {vals : List Value} {rows : List (List Tm)} (h : OwnTT lo w v vals rows) {i : Nat} (hi : i < rows.length) : ∃ u, vals[i]? = some u := by
  have := h.row.1
  rw [Nat.mul_one] at this
  exact ⟨_, List.getElem?_eq_getElem (by omega)⟩
/-- What lies elsewhere is as it was. -/
structure Touched (S : Nat → Prop) (w w' : World) : Prop where
  os : w'.os = w.os
  tape : w'.tape = w.tape
  output : w'.output = w.output
  size : w.heap.size ≤ w'.heap.size
  block : ∀ i, i < w.heap.size → ¬ S i → w'.heap[i]? = w.heap[i]?
theorem Touched.refl (S : Nat → Prop) (w : World) : Touched S w w := ⟨rfl, rfl, rfl, Nat.le_refl _, fun _ _ _ => rfl⟩
theorem Touched.grown {S : Nat → Prop} {w w1 w2 : World} {row : Option Nat} (h : Touched S w w1) (hg : w1.grownBy w2 row) (hS : ∀ b, row = some b → S b) : Touched S w w2 :=
  ⟨hg.os.trans h.os, hg.tape.trans h.tape, hg.output.trans h.output, Nat.le_trans h.size hg.size, fun i hi hn => by
    rw [hg.block i (Nat.lt_of_lt_of_le hi h.size) (fun e => hn (hS i e.symm)), h.block i hi hn]⟩
theorem Touched.below {S : Nat → Prop} {lo : Nat} {w w' : World} (h : Touched S w w') (hl : lo ≤ w.heap.size) (hS : ∀ i, S i → lo ≤ i) : Below lo w w' :=
  ⟨h.os, h.tape, h.output, h.size, fun i hi => h.block i (by omega) fun hs => by have := hS i hs; omega⟩
/-- The blocks of the rows. -/
def InRows (vals : List Value) (b : Nat) : Prop := ∃ (i : Nat) (u : Value), vals[i]? = some u ∧ u.ownBlock = some b
theorem OwnTT.low {lo : Nat} {w : World} {v : Value} {vals : List Value} {rows : List (List Tm)} (h : OwnTT lo w v vals rows) {b : Nat} (hb : InRows vals b) : lo ≤ b ∧ b < w.heap.size := by
  obtain ⟨i, u, hu, e⟩ := hb
  have hi : i < rows.length := by
    have h1 := (List.getElem?_eq_some_iff.1 hu).1
    have := h.row.1
    rw [Nat.mul_one] at this
    omega
  exact (h.each i hi u hu).lt b e
theorem OwnTT.below {lo : Nat} {w w' : World} {v : Value} {vals : List Value} {rows : List (List Tm)} (h : OwnTT lo w v vals rows) (hb : Below w.heap.size w w') : OwnTT lo w' v vals rows :=
  ⟨ownsRow_past h.row hb, fun i hi u hu => (h.each i hi u hu).below hb, h.apart, h.head⟩
theorem OwnTT.touched {lo : Nat} {w w' : World} {S : Nat → Prop} {v : Value} {vals : List Value} {rows : List (List Tm)} (h : OwnTT lo w v vals rows) (ht : Touched S w w') (hv : ∀ b, v.ownBlock = some b → ¬ S b) (hr : ∀ b, InRows vals b → ¬ S b) : OwnTT lo w' v vals rows :=
  ⟨ownsRow_touched h.row fun b hb hl => ht.block b hl (hv b hb), fun i hi u hu => ownsRow_touched (h.each i hi u hu) fun b hb hl => ht.block b hl (hr b ⟨i, u, hu, hb⟩), h.apart, h.head⟩
theorem OwnT.touched {lo : Nat} {w w' : World} {S : Nat → Prop} {v : Value} {ts : List Tm} (h : OwnT lo w v ts) (ht : Touched S w w') (hv : ∀ b, v.ownBlock = some b → ¬ S b) : OwnT lo w' v ts :=
  ownsRow_touched h fun b hb hl => ht.block b hl (hv b hb)
theorem OwnTT.isTT {lo : Nat} {w : World} {v : Value} {vals : List Value} {rows : List (List Tm)} (h : OwnTT lo w v vals rows) (hs : ∀ r ∈ rows, SmallT r) (hn : rows.length ≤ maxLen) : ∃ a cap, v = .slice a rows.length cap ∧ IsTT w a rows.length rows := by
  rcases h.row.2 with ⟨rfl, h0⟩ | ⟨g, cap, cur, rfl, hb, hg, h3⟩
  · exact ⟨none, 0, by rw [h0], rfl, hn, fun hp => absurd hp (by omega)⟩
  · refine ⟨_, cap, rfl, rfl, hn, fun _ => ⟨_, rfl, (Array.getElem?_eq_some_iff.1 hg).1, fun i hi => ?_⟩⟩
    obtain ⟨u, hu⟩ := h.val hi
    obtain ⟨ai, ci, rfl, hI⟩ := (h.each i hi u hu).isTerms (hs _ (List.getElem_mem hi))
    refine ⟨ai, ci, ?_, hI⟩
    exact h.row.cells rfl i _ hu

/-! ### The laws' helpers -/
end Go.Proofs.YtdhmicpoigoleabDoor

/- The contracts of the laws' 'toTermSS', 'eqTermSS', 'markTermSS' and 'heldTermSS'. -/

namespace Go.Proofs.YtdhmicpoigoleabDoor
open Go.RowKit Go.Shelf

/-- Blocks that ascend. -/
def AscV (vals : List Value) (k : Nat) : Prop := ∀ (i j : Nat) (u x : Value) (b c : Nat), i < j → j < k → vals[i]? = some u → vals[j]? = some x → u.ownBlock = some b → x.ownBlock = some c → b < c
theorem AscV.apart {vals : List Value} {k : Nat} (h : AscV vals k) {i j : Nat} {u x : Value} {b : Nat} (hi : i < k) (hj : j < k) (hu : vals[i]? = some u) (hx : vals[j]? = some x) (hne : i ≠ j) (e1 : u.ownBlock = some b) (e2 : x.ownBlock = some b) : False := by
  rcases Nat.lt_or_ge i j with h1 | h1
  · have := h i j u x b b h1 hj hu hx e1 e2; omega
  · have := h j i x u b b (by omega) hi hx hu e2 e1; omega

/-- Rows that are filled in one by one, in a block that lies ahead of them all. -/
structure Filling (lo B : Nat) (w : World) (vals : List Value) (n k : Nat) (rows : List (List Tm)) : Prop where
  row : w.ownsRow lo TT 1 (.slice (some ⟨B, 0, none⟩) n n) n vals
  each : ∀ (j : Nat) (h : j < rows.length), j < k → ∃ u, vals[j]? = some u ∧ OwnT (B + 1) w u rows[j]
  asc : AscV vals k
theorem Filling.start {lo B : Nat} {w : World} {vals : List Value} {n : Nat} {rows : List (List Tm)} (h : w.ownsRow lo TT 1 (.slice (some ⟨B, 0, none⟩) n n) n vals) : Filling lo B w vals n 0 rows :=
  ⟨h, fun _ _ h0 => absurd h0 (Nat.not_lt_zero _), fun _ _ _ _ _ _ _ h0 => absurd h0 (Nat.not_lt_zero _)⟩
theorem Filling.below {lo B : Nat} {w w' : World} {vals : List Value} {n k : Nat} {rows : List (List Tm)} (h : Filling lo B w vals n k rows) (hb : Below w.heap.size w w') : Filling lo B w' vals n k rows :=
  ⟨ownsRow_past h.row hb, fun j hj hk => by obtain ⟨u, h1, h2⟩ := h.each j hj hk; exact ⟨u, h1, h2.below hb⟩, h.asc⟩
/-- One row more: it was made behind all earlier ones. -/
theorem Filling.more {lo B : Nat} {w w2 : World} {vals : List Value} {n k : Nat} {rows : List (List Tm)} {v : Value} (h : Filling lo B w vals n k rows) (hb : Below w.heap.size w w2) (hk : k < n) (hl : rows.length = n) (hkr : k < rows.length) (ho : OwnT w.heap.size w2 v rows[k]) :
    Filling lo B (w2.setCell ⟨B, k, none⟩ v) (vals.set k v) n (k + 1) rows := by
  have hB : B < w.heap.size := (ownsRow_cap h.row).2.2.2
  have hst := (h.below hb).row.stored k v
  have hvl := h.row.1
  rw [Nat.mul_one] at hvl
  have hbl : ∀ b, B + 1 ≤ b → (w2.setCell ⟨B, k, none⟩ v).heap[b]? = w2.heap[b]? := fun b hb => Below.heap_setCell w2 ⟨B, k, none⟩ v b (by show b ≠ B; omega)
  have hkeep : ∀ {u : Value} {ts : List Tm}, OwnT (B + 1) w2 u ts → OwnT (B + 1) (w2.setCell ⟨B, k, none⟩ v) u ts := fun hu => ownsRow_touched hu fun b hb _ => hbl b (hu.lt b hb).1
  refine ⟨hst.1, fun j hj hjk => ?_, fun i j u x b c hij hjk hu hx hb' hc => ?_⟩
  · by_cases e : j = k
    · subst e
      exact ⟨v, List.getElem?_set_self (by omega), hkeep (ho.mono (by omega))⟩
    · obtain ⟨u, h1, h2⟩ := h.each j hj (by omega)
      exact ⟨u, by rw [List.getElem?_set_ne (by omega)]; exact h1, hkeep (h2.below hb)⟩
  · by_cases e : j = k
    · subst e
      rw [List.getElem?_set_self (by omega)] at hx
      cases hx
      rw [List.getElem?_set_ne (by omega)] at hu
      obtain ⟨u', h1, h2⟩ := h.each i (by omega) hij
      rw [h1] at hu
      cases hu
      have p1 := (h2.lt b hb').2
      have p2 := (ho.lt c hc).1
      omega
    · rw [List.getElem?_set_ne (by omega)] at hx
      rw [List.getElem?_set_ne (by omega)] at hu
      exact h.asc i j u x b c hij (by omega) hu hx hb' hc
theorem Filling.done {lo B : Nat} {w : World} {vals : List Value} {n : Nat} {rows : List (List Tm)} (h : Filling lo B w vals n n rows) (hl : rows.length = n) (hlo : lo ≤ B) : OwnTT lo w (.slice (some ⟨B, 0, none⟩) n n) vals rows := by
  have hvl := h.row.1
  rw [Nat.mul_one] at hvl
  have hi : ∀ {i : Nat} {u : Value}, vals[i]? = some u → i < n := fun hu => by have := (List.getElem?_eq_some_iff.1 hu).1; omega
  refine ⟨by rw [hl]; exact h.row, fun i hi2 u hu => ?_, fun i j u x b hu hx hne e1 e2 => h.asc.apart (hi hu) (hi hx) hu hx hne e1 e2, fun i u b hu hv e => ?_⟩
  · obtain ⟨u', h1, h2⟩ := h.each i hi2 (hi hu)
    rw [h1] at hu
    cases hu
    exact h2.mono (by omega)
  · obtain ⟨u', h1, h2⟩ := h.each i (by have := hi hu; omega) (hi hu)
    rw [h1] at hu
    cases hu
    have := (h2.lt b e).1
    simp only [Value.ownBlock, Option.some.injEq] at hv
    omega

def marksTT (k : Nat) : List (List Tm) → List (List Tm)
  | [] => []
  | r :: rs => marksT k r.length :: marksTT (k + 2 * r.length) rs
theorem marksTT_len : ∀ (rs : List (List Tm)) (k : Nat), (marksTT k rs).length = rs.length
  | [], _ => rfl
  | r :: rs, k => by rw [marksTT, List.length_cons, marksTT_len rs, List.length_cons]
theorem marksTT_get : ∀ (rs : List (List Tm)) (k i : Nat) (h : i < rs.length), (marksTT k rs)[i]'(by rw [marksTT_len]; exact h) = marksT (k + 2 * total (rs.take i)) (rs[i]).length
  | r :: rs, k, 0, _ => by simp [marksTT, total]
  | r :: rs, k, i + 1, h => by
    have ih := marksTT_get rs (k + 2 * r.length) i (by simpa using h)
    simp only [marksTT, List.getElem_cons_succ, List.take_succ_cons]
    rw [ih]
    congr 1
    unfold total
    simp only [List.map_cons, List.sum_cons]
    omega
/-- The first j rows are marked. -/
def halfTT (k j : Nat) (rows : List (List Tm)) : List (List Tm) := (marksTT k rows).take j ++ rows.drop j
theorem halfTT_len (k j : Nat) (rows : List (List Tm)) : (halfTT k j rows).length = rows.length := by
  unfold halfTT; rw [List.length_append, List.length_take, marksTT_len, List.length_drop]; omega
theorem halfTT_get (k j : Nat) (rows : List (List Tm)) (i : Nat) (h : i < rows.length) : (halfTT k j rows)[i]'(by rw [halfTT_len]; exact h) = if i < j then (marksTT k rows)[i]'(by rw [marksTT_len]; exact h) else rows[i] := by
  have hl : ((marksTT k rows).take j).length = min j rows.length := by rw [List.length_take, marksTT_len]
  unfold halfTT
  by_cases hij : i < j
  · rw [if_pos hij, List.getElem_append_left (by rw [hl]; omega), List.getElem_take]
  · rw [if_neg hij, List.getElem_append_right (by rw [hl]; omega), List.getElem_drop]
    congr 1
    rw [hl]; omega

theorem OwnTT.marked {lo k j : Nat} {w w2 : World} {v u : Value} {vals : List Value} {rows : List (List Tm)} (h : OwnTT lo w v vals (halfTT k j rows)) (hj : j < rows.length) (hu : vals[j]? = some u) (hg : w.grownBy w2 u.ownBlock) (ho : OwnT lo w2 u (marksT (k + 2 * total (rows.take j)) rows[j].length)) :
    OwnTT lo w2 v vals (halfTT k (j + 1) rows) := by
  refine ⟨?_, fun i hi x hx => ?_, h.apart, h.head⟩
  · have h1 := h.row
    rw [halfTT_len] at h1 ⊢
    exact ownsRow_touched h1 fun b hb hl => hg.block b hl fun e => h.head j u b hu hb e.symm
  · have hi' : i < rows.length := by rw [halfTT_len] at hi; exact hi
    rw [halfTT_get k (j + 1) rows i hi']
    by_cases e : i = j
    · subst e
      rw [hu] at hx
      cases hx
      rw [if_pos (by omega), marksTT_get rows k i hi']
      exact ho
    · have h2 := h.each i (by rw [halfTT_len]; exact hi') x hx
      rw [halfTT_get k j rows i hi'] at h2
      have h3 : OwnT lo w2 x (if i < j then (marksTT k rows)[i]'(by rw [marksTT_len]; exact hi') else rows[i]) := ownsRow_touched h2 fun b hb hl => hg.block b hl fun e2 => h.apart i j x u b hx hu e hb e2.symm
      by_cases hij : i < j
      · rw [if_pos hij] at h3; rw [if_pos (by omega)]; exact h3
      · rw [if_neg hij] at h3; rw [if_neg (by omega)]; exact h3

end Go.Proofs.YtdhmicpoigoleabDoor

/- The contract of the program's 'beginnings'. -/

namespace Go.Proofs.YtdhmicpoigoleabDoor
open Go.RowKit Go.Shelf

theorem row_heap {w : World} {base : Nat} {e : TypeId} {g n : Nat} {xs : List Value} (h : w.ownsRow base e 1 (.slice (some ⟨g, 0, none⟩) n n) n xs) : w.heap[g]? = some (.cells xs.toArray e (0, 0)) := by
  rcases h.2 with ⟨h2, _⟩ | ⟨g', cap, cur, h2, _, hgb, _, _, hcs, htk⟩
  · cases h2
  · cases h2
    rw [hgb]
    have e2 : cur.toList.take (n * 1) = cur.toList := List.take_of_length_le (by simp [hcs])
    rw [e2] at htk
    rw [← htk]
theorem letters_heap {w : World} {g : Nat} {l : List UInt8} {e : TypeId} (h : w.heap[g]? = some (.cells (bytesV l).toArray e (0, 0))) : Letters g 0 l w :=
  ⟨(Array.getElem?_eq_some_iff.1 h).1, fun j hj => by
    unfold World.cell?
    simp only [h]
    simp [bytesV, hj]⟩

/-- A row of all beginnings of the letters l, over one array. -/
def StartsAt (w : World) (B : Nat) (l : List UInt8) : Prop :=
  B < w.heap.size ∧ ∃ G, Letters G 0 l w ∧ ∀ j, j ≤ l.length → w.cell? ⟨B, j, none⟩ = some (.slice (some ⟨G, 0, none⟩) j j)
theorem StartsAt.below {w w' : World} {B : Nat} {l : List UInt8} (h : StartsAt w B l) (hb : Below w.heap.size w w') : StartsAt w' B l := by
  obtain ⟨h1, G, h2, h3⟩ := h
  exact ⟨Nat.lt_of_lt_of_le h1 hb.size, G, h2.below hb, fun j hj => (hb.cell (p := ⟨B, j, none⟩) h1).trans (h3 j hj)⟩
theorem Letters.take {g off : Nat} {l : List UInt8} {w : World} (h : Letters g off l w) (k : Nat) : Letters g off (l.take k) w :=
  ⟨h.1, fun j hj => by
    rw [List.getElem_take]
    exact h.2 j (by rw [List.length_take] at hj; omega)⟩

theorem infoLetter : (Tryd.prog.info? 131).map (fun i => (i.zero, i.size, i.bytes)) = some (some (.int .u8 0), 1, 1) := by kernel_rfl

end Go.Proofs.YtdhmicpoigoleabDoor

/- The contract of the program's 'derivative'. -/

namespace Go.Proofs.YtdhmicpoigoleabDoor
open Go.RowKit Go.Shelf

end Go.Proofs.YtdhmicpoigoleabDoor

/- The contracts of the program's 'FoxSum' and 'FoxOf'. -/

namespace Go.Proofs.YtdhmicpoigoleabDoor
open Go.RowKit Go.Shelf

/-- A list of terms of the call's own is put behind another one. -/
theorem wpList_append_terms {w : World} {ops : Array Oper} {rest : List Oper} {o : Oper} {a : Act} {Q : Exit → Act → World → Prop} (hgd : o.guard = none) (s x : Operand)
    (ho : o.op = .call { callee := .builtin .append, args := #[s, x], argTypes := #[23, 23] }) (base b2 : Nat) (v1 v2 : Value) (ts1 ts2 : List Tm) (hs : a.eval s = v1) (hx : a.eval x = v2)
    (h1 : OwnT base w v1 ts1) (h2 : OwnT b2 w v2 ts2) (hl : ts1.length + ts2.length ≤ 1000000) (hbase : base ≤ w.heap.size)
    (h : ∀ v' w', OwnT base w' v' (ts1 ++ ts2) → w.grownBy w' v1.ownBlock → wpList Tryd.prog ops Q rest (a.put o.dst v') w') : wpList Tryd.prog ops Q (o :: rest) a w := by
  obtain ⟨i0, hi, hz0, hz1, hz2⟩ := info_parts infoTerm
  rcases h2.2 with ⟨rfl, h0⟩ | ⟨g, cap, cur, rfl, _⟩
  · have h20 : ts2 = [] := List.eq_nil_of_length_eq_zero h0
    subst h20
    refine wpList_append_own_none hgd s x 23 ho base TI i0 2 Tryd.underlying23 hi v1 ts1.length (termsV ts1) hs h1 hx ?_
    refine h v1 w (by rw [List.append_nil]; exact h1) ⟨rfl, rfl, rfl, Nat.le_refl _, fun _ _ _ => rfl⟩
  · have hat := termsAt_of_owns rfl h2
    have hc : ∀ j u, (termsV ts2)[j]? = some u → w.cell? ((⟨g, 0, none⟩ : Addr).add j) = some u := hat.cells
    refine wpList_append_own _ hgd s x 23 ho base TI i0 (.agg #[.int .i64 0, .string ByteArray.empty]) 2 24 Tryd.underlying23 hi hz0 hz1 hz2 rfl (by decide) v1 ts1.length (termsV ts1) hs h1
      ⟨g, 0, none⟩ ts2.length cap (termsV ts2) hx (termsV_len ts2) hc (oneCell_terms _) (by unfold maxLen; omega) (by omega) hbase ?_
    intro v' w' h3 h4 _
    refine h v' w' ?_ h4
    unfold OwnT
    rw [List.length_append, termsV_append]
    exact h3

end Go.Proofs.YtdhmicpoigoleabDoor

/- The contracts of both 'FoxOf' and both 'FoxTwice'. -/

namespace Go.Proofs.YtdhmicpoigoleabDoor
open Go.RowKit Go.Shelf

/-- What FoxOf answers. -/
def foxOfB (s : ByteArray) (g : Int) : Bool := wordB s.data.toList && inR 0 3 g
theorem sum_one (s : ByteArray) : sumB [⟨1, s⟩] = wordB s.data.toList := by
  rw [sumB_canon ⟨by simp, fun t ht => by rw [List.mem_singleton.1 ht]; exact Int.one_ne_zero⟩]
  unfold twB termB inR
  simp
theorem foxI_one (s : ByteArray) (g : Int) : foxI g [⟨1, s⟩] = foxL g 1 s.data.toList := by simp [foxI]
theorem foxOf_sum {s : ByteArray} {g : Int} : foxSumB [⟨1, s⟩] g = foxOfB s g := by
  unfold foxSumB foxOfB
  rw [sum_one, foxI_one]
  cases h : wordB s.data.toList with
  | false => rfl
  | true => rw [fox_tw h, Bool.and_true]
theorem foxOfB_tw {s : ByteArray} {g : Int} {b : Bool} (h : foxOfB s g = b) : b = true → twB (canonT (foxL g 1 s.data.toList)) = true := by
  intro hb
  subst hb
  unfold foxOfB at h
  simp only [Bool.and_eq_true] at h
  exact fox_tw h.1
theorem isTerms_one (w : World) (c : Int) (s : ByteArray) (hs : s.size ≤ maxLen) (hc : -9223372036854775808 ≤ c ∧ c ≤ 9223372036854775807) :
    IsTerms (w.alloc (.cells #[.int .i64 c, .string s] TI)) (some ⟨w.heap.size, 0, none⟩) 1 [⟨c, s⟩] :=
  ⟨rfl, by unfold maxLen; omega, fun _ => ⟨_, rfl, by simp, fun i hi => by
    have hi0 : i = 0 := by simp at hi; exact hi
    subst hi0
    have ha : ∀ j, (⟨w.heap.size, 0, none⟩ : Addr).add j = ⟨w.heap.size, j, none⟩ := fun j => by unfold Addr.add; split <;> simp_all
    rw [ha, ha]
    exact ⟨(World.cell?_alloc_at _ _ _ _ (by simp)).trans rfl, (World.cell?_alloc_at _ _ _ _ (by simp)).trans rfl⟩⟩,
    fun t ht => by rw [List.mem_singleton.1 ht]; exact ⟨hs, hc⟩⟩

structure Twice (s : ByteArray) (g h : Int) (b1 b2 : Bool) (us us2 : List Tm) (z : Int) (b : Bool) : Prop where
  h1 : foxOfB s g = b1
  hus : cond b1 (canonT (foxL g 1 s.data.toList)) [] = us
  h2 : foxSumB us h = b2
  hus2 : cond b2 (canonT (foxI h us)) [] = us2
  hz : cond (b1 && b2) (plainZ us2) 0 = z
  hb : (b1 && b2) = b
theorem Twice.small {s : ByteArray} {g h : Int} {b1 b2 : Bool} {us us2 : List Tm} {z : Int} {b : Bool} (t : Twice s g h b1 b2 us us2 z b) : SmallT us := (told_small (foxOfB_tw t.h1) t.hus).1
theorem Twice.small2 {s : ByteArray} {g h : Int} {b1 b2 : Bool} {us us2 : List Tm} {z : Int} {b : Bool} (t : Twice s g h b1 b2 us us2 z b) : SmallT us2 := (told_small (foxSumB_tw t.h2) t.hus2).1
theorem Twice.sum2 {s : ByteArray} {g h : Int} {b1 b2 : Bool} {us us2 : List Tm} {z : Int} {b : Bool} (t : Twice s g h b1 b2 us us2 z b) (hb : b2 = true) : sumB us2 = true := by
  have h2 := t.hus2
  rw [hb] at h2
  have h2 : canonT (foxI h us) = us2 := h2
  rw [← h2, sumB_canon (canon_of _)]
  exact foxSumB_tw t.h2 hb

end Go.Proofs.YtdhmicpoigoleabDoor

/- The contracts of the model's 'l5Text', 'l5Lyndon' and 'LyndonIn'. -/

namespace Go.Proofs.YtdhmicpoigoleabDoor
open Go.RowKit

/-- At most twelve generators. -/
def text12 (s : ByteArray) : Bool := s.data.toList.all genB && decide (s.size ≤ 12)
/-- Less than each of its ends. -/
def lynL (l : List UInt8) : Bool := decide (0 < l.length) && (List.range (l.length - 1)).all fun i => Op.bytesLess l (l.drop (i + 1))
def lynB (s : ByteArray) : Bool := text12 s && lynL s.data.toList
theorem text12_false (s : ByteArray) (k : Nat) (hk : k < s.data.toList.length) (h : genB s.data.toList[k] = false) : text12 s = false := by
  unfold text12; rw [List.all_eq_false.2 ⟨_, List.getElem_mem hk, by rw [h]; exact Bool.false_ne_true⟩]; rfl

theorem extract_drop (s : ByteArray) (i : Nat) : (s.extract i s.size).toList = s.data.toList.drop i := by
  rw [ByteArray.toList_eq, Lib.extract_data]
  apply List.take_of_length_le
  rw [List.length_drop]
  have : s.data.toList.length = s.size := by simp
  omega

/-- How the end from i on compares. -/
theorem end_cmp {s : ByteArray} {i : Nat} (hi : 0 < i) (hs : 0 < s.size) {r : Bool} (h : Op.bytesLess s.data.toList (s.data.toList.drop i) = r) :
    Op.bytesLess (s.extract i s.size).toList s.toList = !r ∧ ((s.extract i s.size).toList == s.toList) = false := by
  rw [extract_drop, ByteArray.toList_eq]
  have hne : s.data.toList.drop i ≠ s.data.toList := fun e => by
    have h1 := congrArg List.length e
    have h2 : s.data.toList.length = s.size := by simp
    rw [List.length_drop] at h1
    omega
  refine ⟨?_, by simpa using hne⟩
  cases r with
  | true =>
    cases h2 : Op.bytesLess (s.data.toList.drop i) s.data.toList with
    | false => rfl
    | true => have := bl_trans _ _ _ h h2; rw [bl_irrefl] at this; cases this
  | false =>
    cases h2 : Op.bytesLess (s.data.toList.drop i) s.data.toList with
    | true => rfl
    | false => exact absurd (bl_tri _ _ h2 h) hne

end Go.Proofs.YtdhmicpoigoleabDoor

/- The contract of the model's 'LyndonFactors'. -/

namespace Go.Proofs.YtdhmicpoigoleabDoor
open Go.RowKit Go.Shelf

/-- The length of the longest beginning, at most n letters, that is a Lyndon word. -/
def prefN (l : List UInt8) : Nat → Nat
  | 0 => 0
  | n + 1 => if lynL (l.take (n + 1)) then n + 1 else prefN l n
theorem prefN_at {l : List UInt8} : ∀ {m n : Nat}, n ≤ m → 0 < n → (∀ j, n < j → j ≤ m → lynL (l.take j) = false) → lynL (l.take n) = true → prefN l m = n
  | 0, n, h1, h2, _, _ => by omega
  | m + 1, n, h1, h2, h3, h4 => by
    rw [prefN]
    by_cases e : n = m + 1
    · subst e; rw [if_pos h4]
    · rw [if_neg (by rw [h3 (m + 1) (by omega) (Nat.le_refl _)]; exact Bool.false_ne_true)]
      exact prefN_at (by omega) h2 (fun j h5 h6 => h3 j h5 (by omega)) h4
/-- The factors, at most so many. -/
def factF : Nat → ByteArray → List ByteArray
  | 0, _ => []
  | f + 1, s => if s.size = 0 then [] else s.extract 0 (prefN s.data.toList s.size) :: factF f (s.extract (prefN s.data.toList s.size) s.size)
theorem lyn_one' (l : List UInt8) (h : l.length = 1) : lynL l = true := by
  unfold lynL; rw [h]; rfl
theorem factF_len : ∀ (f : Nat) (s : ByteArray), (factF f s).length ≤ f
  | 0, _ => Nat.le_refl _
  | f + 1, s => by
    rw [factF]
    split
    · simp
    · have := factF_len f (s.extract (prefN s.data.toList s.size) s.size)
      rw [List.length_cons]; omega
def factL (s : ByteArray) : List ByteArray := factF 12 s

/-- What a function of the model hands back: a list of texts. -/
def SStrs (w : World) (b : Bool) (zs : List ByteArray) (e : Ending) (w' : World) : Prop := (∃ v', e = .returned (.tuple #[v', .bool b]) ∧ OwnS w.heap.size w' v' (cond b zs [])) ∧ Below w.heap.size w w'
theorem ownS_made (w : World) : OwnS w.heap.size (w.alloc (.cells #[] 9)) (.slice (some ⟨w.heap.size, 0, none⟩) 0 0) [] :=
  World.ownsRow_made w #[] 0 (Nat.le_refl _) (Nat.zero_le _) rfl
theorem OwnS.mono {b1 b2 : Nat} {w : World} {v : Value} {zs : List ByteArray} (h : OwnS b1 w v zs) (hb : b2 ≤ b1) : OwnS b2 w v zs := ownsRow_base h hb

end Go.Proofs.YtdhmicpoigoleabDoor

/- The contract of the model's 'LyndonCount'. -/

namespace Go.Proofs.YtdhmicpoigoleabDoor
open Go.RowKit

/-- The function mu, with fuel: d is left, p is tried. -/
def muR : Nat → Nat → Nat → Int → Int
  | 0, _, _, o => o
  | f + 1, d, p, o => if d < p then o else if d % p = 0 then (if d / p % p = 0 then 0 else muR f (d / p) (p + 1) (0 - o)) else muR f d (p + 1) o
def muI (d : Nat) : Int := muR 13 d 2 1

/-- One factor's share, summed up to m; and what LyndonCount answers. -/
def sumMuC (k n : Nat) : Nat → Int
  | 0 => 0
  | m + 1 => if n % (m + 1) = 0 then sumMuC k n m + muI (m + 1) * ((k ^ (n / (m + 1)) : Nat) : Int) else sumMuC k n m
def countI (k n : Nat) : Int := (sumMuC k n n).tdiv n

theorem muR_le : ∀ (f d p : Nat) (o : Int), -1 ≤ o → o ≤ 1 → -1 ≤ muR f d p o ∧ muR f d p o ≤ 1
  | 0, _, _, o, h1, h2 => ⟨h1, h2⟩
  | f + 1, d, p, o, h1, h2 => by
    rw [muR]
    split
    · exact ⟨h1, h2⟩
    · split
      · split
        · exact ⟨by omega, by omega⟩
        · exact muR_le f _ _ _ (by omega) (by omega)
      · exact muR_le f _ _ _ h1 h2
theorem muI_le (d : Nat) : -1 ≤ muI d ∧ muI d ≤ 1 := muR_le _ _ _ _ (by omega) (by omega)
theorem pow_le (k e : Nat) (hk : k ≤ 4) (he : e ≤ 12) : k ^ e ≤ 16777216 :=
  Nat.le_trans (Nat.pow_le_pow_left hk e) (Nat.le_trans (Nat.pow_le_pow_right (by omega) he) (by decide))
theorem share_le (m x : Int) (h1 : -1 ≤ m) (h2 : m ≤ 1) (h3 : 0 ≤ x) (h4 : x ≤ 16777216) : -16777216 ≤ m * x ∧ m * x ≤ 16777216 := by
  rcases (by omega : m = -1 ∨ m = 0 ∨ m = 1) with rfl | rfl | rfl <;> omega
theorem sumC_le (k n : Nat) (hk : k ≤ 4) (hn : n ≤ 12) : ∀ m : Nat, -16777216 * (m : Int) ≤ sumMuC k n m ∧ sumMuC k n m ≤ 16777216 * (m : Int)
  | 0 => ⟨by simp [sumMuC], by simp [sumMuC]⟩
  | m + 1 => by
    have ih := sumC_le k n hk hn m
    rw [sumMuC]
    split
    · have h1 := muI_le (m + 1)
      have h2 := pow_le k (n / (m + 1)) hk (Nat.le_trans (Nat.div_le_self _ _) hn)
      have h3 := share_le _ ((k ^ (n / (m + 1)) : Nat) : Int) h1.1 h1.2 (by omega) (by omega)
      push_cast at h3 ⊢
      exact ⟨by omega, by omega⟩
    · exact ⟨by push_cast; omega, by push_cast; omega⟩
theorem l6In_eq (c a b : Int) (r : Bool) (w : World) (h : inR a b c = r) :
    Calls Tryd.prog 34 #[.int .i64 c, .int .i64 a, .int .i64 b] w fun e w' => e = .returned (.bool r) ∧ w = w' :=
  (l6In_any c a b w).mono fun _ _ ⟨h1, h2⟩ => ⟨by rw [h1, h], h2⟩

theorem countI_nat {k n : Int} (hb : (inR 1 4 k && inR 1 12 n) = true) : ∃ a b : Nat, k = a ∧ n = b ∧ 1 ≤ a ∧ a ≤ 4 ∧ 1 ≤ b ∧ b ≤ 12 := by
  unfold inR at hb
  simp only [Bool.and_eq_true, decide_eq_true_eq] at hb
  exact ⟨k.toNat, n.toNat, by omega, by omega, by omega, by omega, by omega, by omega⟩
end Go.Proofs.YtdhmicpoigoleabDoor

/- The contracts of the model's 'l5All' and 'LyndonList'. -/

namespace Go.Proofs.YtdhmicpoigoleabDoor
open Go.RowKit Go.Shelf

/-- A generator's letter. -/
def chrB (c : Nat) : ByteArray := ⟨#[UInt8.ofNat (97 + c)]⟩
def allC (f : ByteArray → List ByteArray) (b : ByteArray) : Nat → List ByteArray
  | 0 => []
  | c + 1 => allC f b c ++ f (b ++ chrB c)
/-- The Lyndon words that begin so and have m letters more. -/
def allF (k : Nat) : Nat → ByteArray → List ByteArray
  | 0, b => if lynL b.data.toList then [b] else []
  | m + 1, b => allC (allF k m) b k
theorem allC_len (f : ByteArray → List ByteArray) (b : ByteArray) (M : Nat) (h : ∀ x, (f x).length ≤ M) : ∀ c, (allC f b c).length ≤ c * M
  | 0 => by simp [allC]
  | c + 1 => by
    have h1 := allC_len f b M h c
    have h2 := h (b ++ chrB c)
    rw [allC, List.length_append, Nat.succ_mul]
    omega
theorem allF_len (k : Nat) (hk : k ≤ 4) : ∀ m b, (allF k m b).length ≤ 4 ^ m
  | 0, b => by rw [allF]; split <;> simp
  | m + 1, b => by
    have h1 := allC_len (allF k m) b (4 ^ m) (allF_len k hk m) k
    have h2 := Nat.mul_le_mul hk (Nat.le_refl (4 ^ m))
    rw [allF, Nat.pow_succ]
    omega

/-- What LyndonList answers. -/
def listL (k n : Nat) : List ByteArray := allF k n { data := #[] }

end Go.Proofs.YtdhmicpoigoleabDoor

/- The contract of the model's 'LyndonSplit'. -/

namespace Go.Proofs.YtdhmicpoigoleabDoor
open Go.RowKit

/-- The place, from i on, of the first end that is a Lyndon word. -/
def splitF (l : List UInt8) : Nat → Nat → Nat
  | 0, i => i
  | f + 1, i => if lynL (l.drop i) then i else splitF l f (i + 1)
def splitI (l : List UInt8) : Nat := splitF l l.length 1
theorem splitF_at {l : List UInt8} : ∀ {f i0 i : Nat}, i0 ≤ i → i < i0 + f → (∀ j, i0 ≤ j → j < i → lynL (l.drop j) = false) → lynL (l.drop i) = true → splitF l f i0 = i
  | 0, i0, i, h1, h2, _, _ => by omega
  | f + 1, i0, i, h1, h2, h3, h4 => by
    rw [splitF]
    by_cases e : i0 = i
    · subst e; rw [if_pos h4]
    · rw [if_neg (by rw [h3 i0 (Nat.le_refl _) (by omega)]; exact Bool.false_ne_true)]
      exact splitF_at (by omega) (by omega) (fun j h5 h6 => h3 j (by omega) h6) h4
theorem lyn_one (l : List UInt8) (h : l.length = 1) : lynL l = true := by
  unfold lynL; rw [h]; rfl
/-- What LyndonSplit answers. -/
def split12 (s : ByteArray) : Bool := lynB s && !(decide (s.size < 2))

end Go.Proofs.YtdhmicpoigoleabDoor

/- The contract of the model's 'NestOf'. -/

namespace Go.Proofs.YtdhmicpoigoleabDoor
open Go.RowKit

/-- The commutator of two texts, if both are words and it is none too long. -/
def commO (x y : ByteArray) : Option ByteArray :=
  if wordB x.data.toList = true ∧ wordB y.data.toList = true ∧ (redL [] (commL x.data.toList y.data.toList)).length ≤ 60 then some (bstr (redL [] (commL x.data.toList y.data.toList))) else none
theorem commO_size {x y t : ByteArray} (h : commO x y = some t) : t.size ≤ 60 := by
  unfold commO at h
  split at h
  · rename_i hc
    cases h
    rw [bstr_size]; exact hc.2.2
  · cases h

/-- The nested commutator of the first k texts. -/
def nestN (zs : List ByteArray) : Nat → Option ByteArray
  | 0 => none
  | 1 => if wordB (zs.getD 0 { data := #[] }).data.toList then some (zs.getD 0 { data := #[] }) else none
  | k + 2 => (nestN zs (k + 1)).bind fun x => commO x (zs.getD (k + 1) { data := #[] })
theorem nest_none {zs : List ByteArray} {k n : Nat} (h : nestN zs (k + 1) = none) (hn : k + 1 ≤ n) : nestN zs n = none := by
  induction hn with
  | refl => exact h
  | @step m hm ih =>
    obtain ⟨j, rfl⟩ : ∃ j, m = j + 1 := ⟨m - 1, by have : k + 1 ≤ m := hm; omega⟩
    rw [nestN, ih]; rfl
/-- What NestOf answers. -/
def nestO (zs : List ByteArray) : Option ByteArray := if 1 ≤ zs.length ∧ zs.length ≤ 8 then nestN zs zs.length else none

end Go.Proofs.YtdhmicpoigoleabDoor

/- The contract of the model's 'LyndonBracket'. -/

namespace Go.Proofs.YtdhmicpoigoleabDoor
open Go.RowKit

theorem splitF_low (l : List UInt8) : ∀ f i, i ≤ splitF l f i
  | 0, _ => Nat.le_refl _
  | f + 1, i => by
    rw [splitF]
    split
    · exact Nat.le_refl _
    · exact Nat.le_trans (Nat.le_succ i) (splitF_low l f (i + 1))
theorem splitF_high {l : List UInt8} : ∀ {f i0 i : Nat}, i0 ≤ i → i < i0 + f → lynL (l.drop i) = true → splitF l f i0 ≤ i
  | 0, i0, i, h1, h2, _ => by omega
  | f + 1, i0, i, h1, h2, h3 => by
    rw [splitF]
    split
    · exact h1
    · rename_i hn
      by_cases e : i0 = i
      · subst e; exact absurd h3 hn
      · exact splitF_high (by omega) (by omega) h3
theorem splitI_in {l : List UInt8} (h : 2 ≤ l.length) : 1 ≤ splitI l ∧ splitI l < l.length := by
  refine ⟨splitF_low l _ 1, ?_⟩
  have := splitF_high (l := l) (f := l.length) (i0 := 1) (i := l.length - 1) (by omega) (by omega) (lyn_one _ (by rw [List.length_drop]; omega))
  unfold splitI
  omega
/-- The bracket, at most so deep. -/
def bracketF : Nat → ByteArray → Option ByteArray
  | 0, _ => none
  | f + 1, s => if lynB s = false then none else if s.size = 1 then some s else
    (bracketF f (s.extract 0 (splitI s.data.toList))).bind fun x => (bracketF f (s.extract (splitI s.data.toList) s.size)).bind fun y => commO x y
/-- What LyndonBracket answers. -/
def bracketO (s : ByteArray) : Option ByteArray := bracketF 12 s
theorem bracket_size : ∀ {f : Nat} {s t : ByteArray}, bracketF f s = some t → t.size ≤ 60
  | 0, _, _, h => by cases h
  | f + 1, s, t, h => by
    rw [bracketF] at h
    split at h
    · cases h
    · split at h
      · rename_i h1
        cases h; omega
      · cases hx : bracketF f (s.extract 0 (splitI s.data.toList)) with
        | none => rw [hx] at h; cases h
        | some x =>
          rw [hx, Option.bind_some] at h
          cases hy : bracketF f (s.extract (splitI s.data.toList) s.size) with
          | none => rw [hy] at h; cases h
          | some y => rw [hy, Option.bind_some] at h; exact commO_size h
theorem lynB_size {s : ByteArray} (h : lynB s = true) : s.size ≤ 12 ∧ 0 < s.size := by
  unfold lynB text12 lynL at h
  simp only [Bool.and_eq_true, decide_eq_true_eq] at h
  exact ⟨h.1.2, by have := h.2.1; simpa using this⟩

end Go.Proofs.YtdhmicpoigoleabDoor

/- Texts and Lyndon words: how texts compare, which ones put together are Lyndon words, that both parts of a split are, and that factors do not rise. -/

namespace Go.Proofs.YtdhmicpoigoleabDoor
open Go.RowKit

theorem bl_pre : ∀ (p a b : List UInt8), Op.bytesLess (p ++ a) (p ++ b) = Op.bytesLess a b
  | [], _, _ => rfl
  | c :: p, a, b => by
    rw [List.cons_append, List.cons_append, Op.bytesLess, bl_pre p a b]
    simp [UInt8.lt_irrefl]
/-- At some place the first one's byte is less, and all ahead of it are equal. -/
def Apart1 (a b : List UInt8) : Prop := ∃ p x y r s, a = p ++ x :: r ∧ b = p ++ y :: s ∧ x < y
theorem bl_cases : ∀ a b : List UInt8, Op.bytesLess a b = true → (∃ r, r ≠ [] ∧ b = a ++ r) ∨ Apart1 a b
  | _, [], h => by unfold Op.bytesLess at h; cases h
  | [], y :: s, _ => .inl ⟨y :: s, by simp, rfl⟩
  | x :: r, y :: s, h => by
    unfold Op.bytesLess at h
    simp only [Bool.or_eq_true, Bool.and_eq_true, decide_eq_true_eq, beq_iff_eq] at h
    rcases h with h | ⟨rfl, h⟩
    · exact .inr ⟨[], x, y, r, s, rfl, rfl, h⟩
    · rcases bl_cases r s h with ⟨t, ht, rfl⟩ | ⟨p, u, v, r', s', rfl, rfl, huv⟩
      · exact .inl ⟨t, ht, rfl⟩
      · exact .inr ⟨x :: p, u, v, r', s', rfl, rfl, huv⟩
theorem Apart1.less {a b : List UInt8} (h : Apart1 a b) (r s : List UInt8) : Op.bytesLess (a ++ r) (b ++ s) = true := by
  obtain ⟨p, x, y, r', s', rfl, rfl, hxy⟩ := h
  rw [List.append_assoc, List.append_assoc, bl_pre, List.cons_append, List.cons_append]
  unfold Op.bytesLess
  simp [hxy]
theorem bl_longer {a r : List UInt8} (h : r ≠ []) : Op.bytesLess a (a ++ r) = true := by
  have e := bl_pre a [] r
  rw [List.append_nil] at e
  rw [e]
  cases r with
  | nil => exact absurd rfl h
  | cons x y => rfl
theorem apart_of_short {a b : List UInt8} (h : Op.bytesLess a b = true) (hl : b.length ≤ a.length) : Apart1 a b := by
  rcases bl_cases a b h with ⟨r, hr, rfl⟩ | h
  · rw [List.length_append] at hl
    have := List.length_pos_iff.2 hr
    omega
  · exact h
theorem bl_asymm {a b : List UInt8} (h : Op.bytesLess a b = true) : Op.bytesLess b a = false := by
  cases h2 : Op.bytesLess b a with
  | false => rfl
  | true => have := bl_trans _ _ _ h h2; rw [bl_irrefl] at this; cases this

def Lyn (l : List UInt8) : Prop := l ≠ [] ∧ ∀ x y, l = x ++ y → x ≠ [] → y ≠ [] → Op.bytesLess l y = true
theorem lynL_iff (l : List UInt8) : lynL l = true ↔ Lyn l := by
  unfold lynL Lyn
  simp only [Bool.and_eq_true, decide_eq_true_eq, List.all_eq_true, List.mem_range]
  constructor
  · rintro ⟨h0, h⟩
    refine ⟨fun e => by rw [e] at h0; exact Nat.lt_irrefl _ h0, ?_⟩
    rintro x y rfl hx hy
    have h1 := List.length_pos_iff.2 hx
    have h2 := List.length_pos_iff.2 hy
    have h3 := h (x.length - 1) (by rw [List.length_append]; omega)
    rwa [show x.length - 1 + 1 = x.length by omega, List.drop_left] at h3
  · rintro ⟨h0, h⟩
    refine ⟨List.length_pos_iff.2 h0, fun i hi => ?_⟩
    refine h (l.take (i + 1)) _ (List.take_append_drop _ _).symm ?_ ?_
    · intro e
      have h1 := congrArg List.length e
      rw [List.length_take, List.length_nil] at h1
      omega
    · intro e
      have h1 := congrArg List.length e
      rw [List.length_drop, List.length_nil] at h1
      omega
theorem Lyn.before {x v : List UInt8} (hx : x ≠ []) (hv : Lyn v) (h : Op.bytesLess x v = true) : Op.bytesLess (x ++ v) v = true := by
  rcases bl_cases x v h with ⟨r, hr, rfl⟩ | h
  · rw [bl_pre]; exact hv.2 x r rfl hx hr
  · have h1 := h.less v []
    rwa [List.append_nil] at h1
/-- Two Lyndon words in order make one. -/
theorem Lyn.cat {x v : List UInt8} (hx : Lyn x) (hv : Lyn v) (h : Op.bytesLess x v = true) : Lyn (x ++ v) := by
  have hxv := Lyn.before hx.1 hv h
  refine ⟨by simp [hx.1], fun p q e hp hq => ?_⟩
  rcases List.append_eq_append_iff.1 e with ⟨a, rfl, hva⟩ | ⟨c, rfl, rfl⟩
  · by_cases ha : a = []
    · subst ha
      rw [List.nil_append] at hva
      rw [← hva]; exact hxv
    · exact bl_trans _ _ _ hxv (hv.2 a q hva ha hq)
  · by_cases hc : c = []
    · subst hc
      rw [List.nil_append]; exact hxv
    · exact (apart_of_short (hx.2 p c rfl hp hc) (by rw [List.length_append]; omega)).less v v
theorem least_end : ∀ u : List UInt8, u ≠ [] → ∃ a x, u = a ++ x ∧ x ≠ [] ∧ ∀ b y, u = b ++ y → y ≠ [] → y = x ∨ Op.bytesLess x y = true
  | [], h => absurd rfl h
  | [c], _ => ⟨[], [c], rfl, by simp, fun b y e hy => by
      cases b with
      | nil => exact .inl e.symm
      | cons d b =>
        have h1 := congrArg List.length e
        have h2 := List.length_pos_iff.2 hy
        simp only [List.length_append, List.length_cons, List.length_nil] at h1
        omega⟩
  | c :: d :: r, _ => by
    obtain ⟨a, x, hax, hx, hm⟩ := least_end (d :: r) (by simp)
    cases hq : Op.bytesLess (c :: d :: r) x with
    | true =>
      refine ⟨[], c :: d :: r, rfl, by simp, fun b y e hy => ?_⟩
      cases b with
      | nil => exact .inl e.symm
      | cons f b =>
        have e2 : d :: r = b ++ y := by rw [List.cons_append] at e; exact (List.cons.inj e).2
        rcases hm b y e2 hy with rfl | h
        · exact .inr hq
        · exact .inr (bl_trans _ _ _ hq h)
    | false =>
      refine ⟨c :: a, x, by rw [hax]; rfl, hx, fun b y e hy => ?_⟩
      cases b with
      | nil =>
        have e2 : c :: d :: r = y := e
        cases h2 : Op.bytesLess x (c :: d :: r) with
        | true => exact .inr (by rw [← e2]; exact h2)
        | false => exact .inl (by rw [← e2]; exact bl_tri _ _ hq h2)
      | cons f b =>
        have e2 : d :: r = b ++ y := by rw [List.cons_append] at e; exact (List.cons.inj e).2
        exact hm b y e2 hy
theorem least_lyn {u a x : List UInt8} (hu : u = a ++ x) (hx : x ≠ []) (h : ∀ b y, u = b ++ y → y ≠ [] → y = x ∨ Op.bytesLess x y = true) : Lyn x := by
  refine ⟨hx, fun p q e hp hq => ?_⟩
  rcases h (a ++ p) q (by rw [hu, e, List.append_assoc]) hq with rfl | h
  · have h1 := congrArg List.length e
    have h2 := List.length_pos_iff.2 hp
    rw [List.length_append] at h1
    omega
  · exact h
theorem split_less {u v : List UInt8} (hs : Lyn (u ++ v)) (hu : u ≠ []) (hv : v ≠ []) : Op.bytesLess u v = true :=
  bl_trans _ _ _ (bl_longer hv) (hs.2 u v rfl hu hv)
/-- What is ahead of the longest end that is a Lyndon word is one, too. -/
theorem split_first {u v : List UInt8} (hs : Lyn (u ++ v)) (hu : u ≠ []) (hv : Lyn v) (hmax : ∀ a b, u = a ++ b → a ≠ [] → b ≠ [] → ¬ Lyn (b ++ v)) : Lyn u := by
  obtain ⟨a, x, hax, hx, hm⟩ := least_end u hu
  have hl := least_lyn hax hx hm
  by_cases ha : a = []
  · subst ha
    rw [List.nil_append] at hax
    rw [hax]; exact hl
  · exfalso
    have huv := split_less hs hu hv.1
    have hxv : Op.bytesLess x v = true := by
      rcases hm [] u rfl hu with e | h
      · rw [← e]; exact huv
      · exact bl_trans _ _ _ h huv
    exact hmax a x hax ha hx (hl.cat hv hxv)
theorem splitF_spec {l : List UInt8} : ∀ (f i0 i : Nat), i0 ≤ i → i < i0 + f → lynL (l.drop i) = true → lynL (l.drop (splitF l f i0)) = true ∧ ∀ j, i0 ≤ j → j < splitF l f i0 → lynL (l.drop j) = false
  | 0, i0, i, h1, h2, _ => by omega
  | f + 1, i0, i, h1, h2, h3 => by
    rw [splitF]
    cases hq : lynL (l.drop i0) with
    | true =>
      rw [if_pos rfl]
      exact ⟨hq, fun j h4 h5 => by omega⟩
    | false =>
      rw [if_neg Bool.false_ne_true]
      have hne : i0 ≠ i := fun e => by rw [e, h3] at hq; cases hq
      obtain ⟨h4, h5⟩ := splitF_spec f (i0 + 1) i (by omega) (by omega) h3
      refine ⟨h4, fun j h6 h7 => ?_⟩
      by_cases e : j = i0
      · rw [e]; exact hq
      · exact h5 j (by omega) h7
theorem splitI_spec {l : List UInt8} (h : 2 ≤ l.length) : lynL (l.drop (splitI l)) = true ∧ ∀ j, 1 ≤ j → j < splitI l → lynL (l.drop j) = false :=
  splitF_spec l.length 1 (l.length - 1) (by omega) (by omega) (lyn_one _ (by rw [List.length_drop]; omega))
/-- Both parts of the split are Lyndon words, in order. -/
theorem splitI_lyn {l : List UInt8} (hl : lynL l = true) (h : 2 ≤ l.length) : lynL (l.take (splitI l)) = true ∧ lynL (l.drop (splitI l)) = true ∧ Op.bytesLess (l.take (splitI l)) (l.drop (splitI l)) = true := by
  obtain ⟨h1, h2⟩ := splitI_in h
  obtain ⟨h3, h4⟩ := splitI_spec h
  have hL := (lynL_iff l).1 hl
  have e : l = l.take (splitI l) ++ l.drop (splitI l) := (List.take_append_drop _ _).symm
  have hL' : Lyn (l.take (splitI l) ++ l.drop (splitI l)) := by rw [← e]; exact hL
  have hne : l.take (splitI l) ≠ [] := fun e => by
    have := congrArg List.length e
    rw [List.length_take, List.length_nil] at this
    omega
  have hv := (lynL_iff _).1 h3
  refine ⟨(lynL_iff _).2 (split_first hL' hne hv fun a b hab ha hb hLb => ?_), h3, split_less hL' hne hv.1⟩
  have hla := List.length_pos_iff.2 ha
  have hlb := List.length_pos_iff.2 hb
  have hlen := congrArg List.length hab
  rw [List.length_take, List.length_append] at hlen
  have hd : l.drop a.length = b ++ l.drop (splitI l) := by
    have : l = a ++ (b ++ l.drop (splitI l)) := by rw [← List.append_assoc, ← hab]; exact e
    have h5 := congrArg (List.drop a.length) this
    rwa [List.drop_left] at h5
  have h6 := h4 a.length (by omega) (by omega)
  rw [hd, (lynL_iff _).2 hLb] at h6
  cases h6

/-- No end is less than the beginning with as many letters. -/
def mayL (l : List UInt8) : Bool := (List.range l.length).all fun i => !(Op.bytesLess (l.drop i) (l.take (l.length - i)))
theorem may_none {p : List UInt8} (h : mayL p = false) : ∃ i, 0 < i ∧ i < p.length ∧ Op.bytesLess (p.drop i) (p.take (p.length - i)) = true := by
  unfold mayL at h
  obtain ⟨i, hi, hb⟩ := List.all_eq_false.1 h
  rw [List.mem_range] at hi
  have hb : Op.bytesLess (p.drop i) (p.take (p.length - i)) = true := by
    cases hq : Op.bytesLess (p.drop i) (p.take (p.length - i)) with
    | true => rfl
    | false => rw [hq] at hb; exact absurd rfl hb
  refine ⟨i, ?_, hi, hb⟩
  by_cases e : i = 0
  · subst e
    rw [List.drop_zero, Nat.sub_zero, List.take_length, bl_irrefl] at hb
    cases hb
  · omega
/-- Lyndon words have no such beginning. -/
theorem may_lyn {p : List UInt8} (h : mayL p = false) (e : List UInt8) : lynL (p ++ e) = false := by
  cases hq : lynL (p ++ e) with
  | false => rfl
  | true =>
    exfalso
    obtain ⟨i, h0, hi, hb⟩ := may_none h
    have hL := (lynL_iff _).1 hq
    have ha := apart_of_short hb (by rw [List.length_take, List.length_drop]; omega)
    have h1 := ha.less e (p.drop (p.length - i) ++ e)
    rw [← List.append_assoc, List.take_append_drop] at h1
    have h2 := hL.2 (p.take i) (p.drop i ++ e) (by rw [← List.append_assoc, List.take_append_drop]) (fun e => by
      have := congrArg List.length e
      rw [List.length_take, List.length_nil] at this
      omega) (fun e => by
      have := congrArg List.length e
      rw [List.length_append, List.length_drop, List.length_nil] at this
      omega)
    have := bl_trans _ _ _ h1 h2
    rw [bl_irrefl] at this
    cases this
/-- What cannot stand behind a text rules out all lesser letters. -/
theorem may_less {b : List UInt8} {c d : UInt8} (h : mayL (b ++ [c]) = false) (hd : d < c) : mayL (b ++ [d]) = false := by
  obtain ⟨i, h0, hi, hb⟩ := may_none h
  rw [List.length_append, List.length_singleton] at hi
  have hx : ∀ z : UInt8, (b ++ [z]).drop i = b.drop i ++ [z] ∧ (b ++ [z]).take ((b ++ [z]).length - i) = b.take (b.length + 1 - i) := fun z => by
    rw [List.length_append, List.length_singleton]
    exact ⟨List.drop_append_of_le_length (by omega), List.take_append_of_le_length (by omega)⟩
  unfold mayL
  refine List.all_eq_false.2 ⟨i, by rw [List.mem_range, List.length_append, List.length_singleton]; exact hi, ?_⟩
  rw [(hx c).1, (hx c).2] at hb
  have hdc : Op.bytesLess (b.drop i ++ [d]) (b.drop i ++ [c]) = true := by
    rw [bl_pre]; unfold Op.bytesLess; simp [hd]
  rw [(hx d).1, (hx d).2, bl_trans _ _ _ hdc hb]
  exact Bool.false_ne_true

theorem prefN_spec {l : List UInt8} : ∀ (m n : Nat), 0 < n → n ≤ m → lynL (l.take n) = true → n ≤ prefN l m ∧ prefN l m ≤ m ∧ lynL (l.take (prefN l m)) = true ∧ ∀ j, prefN l m < j → j ≤ m → lynL (l.take j) = false
  | 0, n, h1, h2, _ => by omega
  | m + 1, n, h1, h2, h3 => by
    rw [prefN]
    cases hq : lynL (l.take (m + 1)) with
    | true =>
      rw [if_pos rfl]
      exact ⟨h2, Nat.le_refl _, hq, fun j h4 h5 => by omega⟩
    | false =>
      rw [if_neg Bool.false_ne_true]
      have hne : n ≠ m + 1 := fun e => by rw [e, hq] at h3; cases h3
      obtain ⟨h4, h5, h6, h7⟩ := prefN_spec m n h1 (by omega) h3
      refine ⟨h4, by omega, h6, fun j h8 h9 => ?_⟩
      by_cases e : j = m + 1
      · rw [e]; exact hq
      · exact h7 j h8 (by omega)
theorem prefN_full {l : List UInt8} (h : 0 < l.length) : 1 ≤ prefN l l.length ∧ prefN l l.length ≤ l.length ∧ lynL (l.take (prefN l l.length)) = true ∧ ∀ j, prefN l l.length < j → j ≤ l.length → lynL (l.take j) = false :=
  prefN_spec l.length 1 (by omega) (by omega) (lyn_one' _ (by rw [List.length_take]; omega))
/-- The factors of a list of letters, at most so many. -/
def factsL : Nat → List UInt8 → List (List UInt8)
  | 0, _ => []
  | f + 1, l => if l.length = 0 then [] else l.take (prefN l l.length) :: factsL f (l.drop (prefN l l.length))
theorem factF_lists : ∀ (f : Nat) (s : ByteArray), (factF f s).map (fun t => t.data.toList) = factsL f s.data.toList
  | 0, _ => rfl
  | f + 1, s => by
    have hln : s.data.toList.length = s.size := by simp
    rw [factF, factsL, hln]
    by_cases h : s.size = 0
    · rw [if_pos h, if_pos h]; rfl
    · rw [if_neg h, if_neg h, List.map_cons, factF_lists f, extract_take, bstr_toList, ← extract_drop, ByteArray.toList_eq]
/-- Factors make the text, are Lyndon words and do not rise. -/
theorem facts_make : ∀ (f : Nat) (l : List UInt8), l.length ≤ f → (factsL f l).flatten = l
  | 0, l, h => by rw [List.length_eq_zero_iff.1 (Nat.le_zero.1 h)]; rfl
  | f + 1, l, h => by
    rw [factsL]
    by_cases h0 : l.length = 0
    · rw [if_pos h0, List.length_eq_zero_iff.1 h0]; rfl
    · rw [if_neg h0, List.flatten_cons, facts_make f _ (by have := prefN_full (l := l) (by omega); rw [List.length_drop]; omega), List.take_append_drop]
theorem facts_lyn : ∀ (f : Nat) (l : List UInt8), ∀ x ∈ factsL f l, lynL x = true
  | 0, _, x, hx => by cases hx
  | f + 1, l, x, hx => by
    rw [factsL] at hx
    by_cases h0 : l.length = 0
    · rw [if_pos h0] at hx; cases hx
    · rw [if_neg h0] at hx
      rcases List.mem_cons.1 hx with rfl | hx
      · exact (prefN_full (by omega)).2.2.1
      · exact facts_lyn f _ x hx
theorem facts_fall : ∀ (f : Nat) (l : List UInt8) (k : Nat) (h : k + 1 < (factsL f l).length), Op.bytesLess ((factsL f l)[k]) ((factsL f l)[k + 1]) = false
  | 0, _, k, h => by simp [factsL] at h
  | f + 1, l, k, h => by
    by_cases h0 : l.length = 0
    · have e : factsL (f + 1) l = [] := by rw [factsL, if_pos h0]
      rw [e] at h; simp at h
    · have e : factsL (f + 1) l = l.take (prefN l l.length) :: factsL f (l.drop (prefN l l.length)) := by rw [factsL, if_neg h0]
      have hlen := congrArg List.length e
      rw [List.length_cons] at hlen
      have hget : ∀ j (hj : j < (factsL (f + 1) l).length), (factsL (f + 1) l)[j] = (l.take (prefN l l.length) :: factsL f (l.drop (prefN l l.length)))[j]'(by rw [← e]; exact hj) := fun j hj => by simp only [e]
      rw [hget, hget]
      cases k with
      | succ k =>
        rw [List.getElem_cons_succ, List.getElem_cons_succ]
        exact facts_fall f _ k (by omega)
      | zero =>
        rw [List.getElem_cons_zero, List.getElem_cons_succ]
        obtain ⟨h1, h2, h3, h4⟩ := prefN_full (l := l) (by omega)
        obtain ⟨n, hn⟩ : ∃ n, prefN l l.length = n := ⟨_, rfl⟩
        simp only [hn] at h1 h2 h3 h4 h hlen ⊢
        cases f with
        | zero =>
          rw [show factsL 0 (l.drop n) = [] from rfl, List.length_nil] at hlen
          omega
        | succ f =>
          have h0' : ¬ (l.drop n).length = 0 := fun e0 => by
            have : factsL (f + 1) (l.drop n) = [] := by rw [factsL, if_pos e0]
            rw [this] at hlen; simp at hlen; omega
          have e' : factsL (f + 1) (l.drop n) = (l.drop n).take (prefN (l.drop n) (l.drop n).length) :: factsL f ((l.drop n).drop (prefN (l.drop n) (l.drop n).length)) := by rw [factsL, if_neg h0']
          have hget0 : ∀ hj : 0 < (factsL (f + 1) (l.drop n)).length, (factsL (f + 1) (l.drop n))[0] = (l.drop n).take (prefN (l.drop n) (l.drop n).length) := fun hj => by simp only [e', List.getElem_cons_zero]
          rw [hget0]
          obtain ⟨g1, g2, g3, _⟩ := prefN_full (l := l.drop n) (by omega)
          obtain ⟨m, hm⟩ : ∃ m, prefN (l.drop n) (l.drop n).length = m := ⟨_, rfl⟩
          rw [hm] at g1 g2 g3 ⊢
          rw [List.length_drop] at g2
          cases hq : Op.bytesLess (l.take n) ((l.drop n).take m) with
          | false => rfl
          | true =>
            have hc := ((lynL_iff _).1 h3).cat ((lynL_iff _).1 g3) hq
            have ht : l.take n ++ (l.drop n).take m = l.take (n + m) := by rw [List.take_add]
            rw [ht] at hc
            have := h4 (n + m) (by omega) (by omega)
            rw [(lynL_iff _).2 hc] at this
            cases this
theorem facts_one {l : List UInt8} (h : lynL l = true) (f : Nat) : factsL (f + 1) l = [l] := by
  have h0 := ((lynL_iff _).1 h).1
  have hl := List.length_pos_iff.2 h0
  have hp : prefN l l.length = l.length := prefN_at (Nat.le_refl _) hl (fun j h1 h2 => by omega) (by rw [List.take_length]; exact h)
  rw [factsL, if_neg (by omega), hp, List.take_length, List.drop_length]
  cases f with
  | zero => rfl
  | succ f => rw [factsL, if_pos List.length_nil]

/-- Turned lists. -/
def rotL (l : List UInt8) (i : Nat) : List UInt8 := l.drop i ++ l.take i
def turnL (l : List UInt8) : Nat → List UInt8
  | 0 => l
  | k + 1 => if Op.bytesLess (rotL l (k + 1)) (turnL l k) then rotL l (k + 1) else turnL l k
theorem turn_min (l : List UInt8) : ∀ k i, i ≤ k → Op.bytesLess (rotL l i) (turnL l k) = false
  | 0, i, h => by rw [Nat.le_zero.1 h]; simp only [rotL, turnL, List.drop_zero, List.take_zero, List.append_nil]; exact bl_irrefl l
  | k + 1, i, h => by
    rw [turnL]
    cases hq : Op.bytesLess (rotL l (k + 1)) (turnL l k) with
    | true =>
      rw [if_pos rfl]
      by_cases e : i = k + 1
      · rw [e]; exact bl_irrefl _
      · cases h2 : Op.bytesLess (rotL l i) (rotL l (k + 1)) with
        | false => rfl
        | true =>
          have := bl_trans _ _ _ h2 hq
          rw [turn_min l k i (by omega)] at this; cases this
    | false =>
      rw [if_neg Bool.false_ne_true]
      by_cases e : i = k + 1
      · rw [e]; exact hq
      · exact turn_min l k i (by omega)
theorem turn_is (l : List UInt8) : ∀ k, ∃ i, i ≤ k ∧ turnL l k = rotL l i
  | 0 => ⟨0, Nat.le_refl _, by simp [rotL, turnL]⟩
  | k + 1 => by
    rw [turnL]
    split
    · exact ⟨k + 1, Nat.le_refl _, rfl⟩
    · obtain ⟨i, h, e⟩ := turn_is l k
      exact ⟨i, by omega, e⟩
theorem rot_rot {l : List UInt8} (i : Nat) (h : i + 1 ≤ l.length) : rotL (rotL l 1) i = rotL l (i + 1) := by
  unfold rotL
  cases l with
  | nil => simp at h
  | cons c r =>
    rw [List.length_cons] at h
    simp only [List.drop_succ_cons, List.drop_zero, List.take_succ_cons, List.take_zero]
    rw [List.drop_append_of_le_length (by omega), List.take_append_of_le_length (by omega), List.append_assoc]
    rfl
theorem rot_full (l : List UInt8) : rotL l l.length = l := by unfold rotL; rw [List.drop_length, List.take_length]; rfl
theorem rot_zero (l : List UInt8) : rotL l 0 = l := by unfold rotL; simp
theorem rot_len (l : List UInt8) (i : Nat) : (rotL l i).length = l.length := by unfold rotL; rw [List.length_append, List.length_drop, List.length_take]; omega
theorem turn_len (l : List UInt8) (k : Nat) : (turnL l k).length = l.length := by obtain ⟨i, _, e⟩ := turn_is l k; rw [e, rot_len]
/-- The least turn is the same for the text turned by one letter. -/
theorem turn_turned {l : List UInt8} (h : 0 < l.length) : turnL (rotL l 1) (l.length - 1) = turnL l (l.length - 1) := by
  obtain ⟨i, hi, ei⟩ := turn_is l (l.length - 1)
  obtain ⟨j, hj, ej⟩ := turn_is (rotL l 1) (l.length - 1)
  refine bl_tri _ _ ?_ ?_
  · rw [ej, rot_rot j (by omega)]
    by_cases e : j + 1 = l.length
    · rw [e, rot_full]
      have := turn_min l (l.length - 1) 0 (Nat.zero_le _)
      rwa [rot_zero] at this
    · exact turn_min l (l.length - 1) (j + 1) (by omega)
  · rw [ei]
    by_cases e : i = 0
    · rw [e, rot_zero]
      have := turn_min (rotL l 1) (l.length - 1) (l.length - 1) (Nat.le_refl _)
      rwa [rot_rot _ (by omega), show l.length - 1 + 1 = l.length by omega, rot_full] at this
    · have := turn_min (rotL l 1) (l.length - 1) (i - 1) (by omega)
      rwa [rot_rot _ (by omega), show i - 1 + 1 = i by omega] at this
theorem turn_lyn {l : List UInt8} (h : lynL l = true) : ∀ k, k < l.length → turnL l k = l
  | 0, _ => rfl
  | k + 1, hk => by
    have hL := (lynL_iff _).1 h
    have h1 := hL.2 (l.take (k + 1)) (l.drop (k + 1)) (List.take_append_drop _ _).symm (fun e => by
      have := congrArg List.length e
      rw [List.length_take, List.length_nil] at this
      omega) (fun e => by
      have := congrArg List.length e
      rw [List.length_drop, List.length_nil] at this
      omega)
    have h2 := (apart_of_short h1 (by rw [List.length_drop]; omega)).less [] (l.take (k + 1))
    rw [List.append_nil] at h2
    rw [turnL, turn_lyn h k (by omega)]
    unfold rotL
    rw [bl_asymm h2, if_neg Bool.false_ne_true]

end Go.Proofs.YtdhmicpoigoleabDoor

/- The contracts of the program's 'generatorText', 'isLyndon' and 'mayBegin'. -/

namespace Go.Proofs.YtdhmicpoigoleabDoor
open Go.RowKit Go.Shelf

theorem chr_nat (g : Nat) (h : g < 4) : ((UInt8.ofNat (97 + g)).toNat : Int) = 97 + (g : Int) := by
  rw [UInt8.toNat_ofNat', Nat.mod_eq_of_lt (by omega)]; omega
/-- Less than each of its shorter ends. -/
def lynP (l : List UInt8) : Bool := (List.range (l.length - 1)).all fun i => Op.bytesLess l (l.drop (i + 1))
theorem lynL_P {l : List UInt8} (h : 0 < l.length) : lynL l = lynP l := by unfold lynL lynP; rw [decide_eq_true h, Bool.true_and]
theorem lynP_one {l : List UInt8} (h : 0 < l.length) (hl : lynL l = true) : lynP l = true := by rw [← lynL_P h]; exact hl

end Go.Proofs.YtdhmicpoigoleabDoor

/- The contracts of both 'FoxBack'. -/

namespace Go.Proofs.YtdhmicpoigoleabDoor
open Go.RowKit Go.Shelf

def genS (g : Nat) : ByteArray := bstr [UInt8.ofNat (97 + g)]
/-- A generator less 1. -/
def lessT (g : Nat) : List Tm := [⟨-1, { data := #[] }⟩, ⟨1, genS g⟩]
theorem less_sum (g : Nat) (h : g < 4) : sumB (lessT g) = true := by
  have : g = 0 ∨ g = 1 ∨ g = 2 ∨ g = 3 := by omega
  rcases this with rfl | rfl | rfl | rfl <;> decide +kernel
theorem isTerms_less (w : World) (g : Nat) : IsTerms (w.alloc (.cells #[.int .i64 (-1), .string { data := #[] }, .int .i64 1, .string (genS g)] 48)) (some ⟨w.heap.size, 0, none⟩) 2 (lessT g) :=
  ⟨rfl, by unfold maxLen; omega, fun _ => ⟨_, rfl, by simp, fun i hi => by
    have ha : ∀ j, (⟨w.heap.size, 0, none⟩ : Addr).add j = ⟨w.heap.size, j, none⟩ := fun j => by unfold Addr.add; split <;> simp_all
    rw [ha, ha]
    match i, hi with
    | 0, _ => exact ⟨(World.cell?_alloc_at _ _ _ _ (by simp)).trans rfl, (World.cell?_alloc_at _ _ _ _ (by simp)).trans rfl⟩
    | 1, _ => exact ⟨(World.cell?_alloc_at _ _ _ _ (by simp)).trans rfl, (World.cell?_alloc_at _ _ _ _ (by simp)).trans rfl⟩⟩,
    fun t ht => by
      rcases List.mem_cons.1 ht with rfl | ht
      · exact ⟨Nat.zero_le _, by show (-9223372036854775808 : Int) ≤ -1; omega, by show (-1 : Int) ≤ 9223372036854775807; omega⟩
      · obtain rfl := List.mem_singleton.1 ht
        exact ⟨by show (genS g).size ≤ _; unfold genS maxLen; rw [bstr_size]; simp, by show (-9223372036854775808 : Int) ≤ 1; omega, by show (1 : Int) ≤ 9223372036854775807; omega⟩⟩

def backRow (rows : List (List Tm)) (g : Nat) : List Tm := canonT (pairsT (rows.getD g []) (lessT g))
def backN (rows : List (List Tm)) (k : Nat) : List Tm := (List.range k).flatMap (backRow rows)
theorem backN_succ (rows : List (List Tm)) (k : Nat) : backN rows (k + 1) = backN rows k ++ backRow rows k := by
  unfold backN; rw [List.range_succ, List.flatMap_append]; simp
def prodAt (rows : List (List Tm)) (g : Nat) : Bool := prodB (rows.getD g []) (lessT g)
/-- What FoxBack answers. -/
def backB (rows : List (List Tm)) : Bool := decide (rows.length = 4) && ((List.range 4).all (prodAt rows) && twB (canonT (backN rows 4)))
theorem back_false {rows : List (List Tm)} {k : Nat} (hk : k < 4) (h : prodAt rows k = false) : (List.range 4).all (prodAt rows) = false := List.all_eq_false.2 ⟨k, List.mem_range.2 hk, by simp [h]⟩
theorem back_true {rows : List (List Tm)} (h : ∀ g, g < 4 → prodAt rows g = true) : (List.range 4).all (prodAt rows) = true := List.all_eq_true.2 fun g hg => h g (List.mem_range.1 hg)
theorem back_row {rows : List (List Tm)} {g : Nat} (h : prodAt rows g = true) : (backRow rows g).length ≤ 300 ∧ ∀ t ∈ backRow rows g, termB t = true := canon_len_words (prodB_tw h rfl)
theorem back_sizes {rows : List (List Tm)} : ∀ {k : Nat}, (∀ g, g < k → prodAt rows g = true) → (backN rows k).length ≤ 300 * k ∧ ∀ t ∈ backN rows k, termB t = true
  | 0, _ => ⟨by simp [backN], fun t h => by simp [backN] at h⟩
  | k + 1, h => by
    obtain ⟨h1, h2⟩ := back_sizes (k := k) fun g hg => h g (by omega)
    obtain ⟨h3, h4⟩ := back_row (h k (by omega))
    rw [backN_succ]
    refine ⟨by rw [List.length_append]; omega, fun t ht => ?_⟩
    rcases List.mem_append.1 ht with ht | ht
    · exact h2 t ht
    · exact h4 t ht

theorem gen_nat (g : Nat) (h : g < 4) : ((UInt8.ofNat (97 + g)).toNat : Int) = 97 + (g : Int) := by
  rw [UInt8.toNat_ofNat', Nat.mod_eq_of_lt (by omega)]; omega

theorem backB_tw {rows : List (List Tm)} {b : Bool} (h : backB rows = b) : b = true → twB (canonT (backN rows 4)) = true := by
  intro hb
  subst hb
  unfold backB at h
  simp only [Bool.and_eq_true] at h
  exact h.2.2
end Go.Proofs.YtdhmicpoigoleabDoor

/- The contract of the laws' own 'sameSum'. -/

namespace Go.Proofs.YtdhmicpoigoleabDoor
open Go.RowKit Go.Shelf

set_option maxRecDepth 100000 in
set_option maxHeartbeats 4000000 in
theorem sameSum_yes (a1 a2 : Option Addr) (c1 c2 n : Nat) (ts : List Tm) (w : World) (h1 : IsTerms w a1 n ts) (h2 : IsTerms w a2 n ts) :
    Calls Tryd.prog 7 #[.slice a1 n c1, .slice a2 n c2] w fun e w' => e = .returned (.bool true) ∧ Below w.heap.size w w' := by
  have H1 := Lib.hid h1
  have H2 := Lib.hid h2
  have HN := Lib.hid h1.len
  have hm := h1.max
  unfold maxLen at hm
  clear h1 h2
  go_enter Tryd.func7, Tryd.ntmps7
  go_wp2
  go_loopw [5] (fun i wr => ∃ k : Nat, k ≤ n ∧ i = .int .i64 k ∧ Below w.heap.size w wr) (fun i _ => n - (intOf i).toNat)
  case atStart => exact ⟨0, Nat.zero_le _, rfl, Below.refl _ _⟩
  case round =>
    obtain ⟨k, hk, rfl, hB⟩ := hrel
    by_cases hlt : k < n
    · have hkz : k < ts.length := by rw [HN.out]; exact hlt
      obtain ⟨x, rfl, hx⟩ := H1.out.at_ (by omega)
      obtain ⟨y, rfl, hy⟩ := H2.out.at_ (by omega)
      obtain ⟨t, ht⟩ : ∃ t, ts[k] = t := ⟨_, rfl⟩
      have hc := (hx.below hB).2 k hkz
      have hd := (hy.below hB).2 k hkz
      rw [ht, addr_next] at hc hd
      obtain ⟨c0, c1'⟩ := hc
      obtain ⟨d0, d1'⟩ := hd
      have HB := Lib.hid hB
      have hki : (k : Int) < (n : Int) := by omega
      clear hx hy ht hB
      go_wp2
      go_quiet (fail)
      go_wp2
      go_roundw
      case rel => exact ⟨k + 1, by omega, by go_num, ⟨HB.out.os, HB.out.tape, HB.out.output, HB.out.size, HB.out.block⟩⟩
      case measure => simp [intOf]; omega
    · obtain rfl : k = n := by omega
      go_wp2
      go_ret
      exact ⟨rfl, hB⟩

end Go.Proofs.YtdhmicpoigoleabDoor

/- The contracts of both sides' functions on sums, the answer under a name of its own. -/

namespace Go.Proofs.YtdhmicpoigoleabDoor
open Go.RowKit Go.Shelf

/-- A slice of terms, nil or not. -/
structure TermsIn (w : World) (a : Option Addr) (n c : Nat) (ts : List Tm) : Prop where
  is : IsTerms w a n ts
  part : PartT w (.slice a n c) ts
theorem TermsIn.below {w w' : World} {a : Option Addr} {n c : Nat} {ts : List Tm} (h : TermsIn w a n c ts) (hb : Below w.heap.size w w') : TermsIn w' a n c ts := ⟨h.is.below hb, h.part.below hb⟩
theorem TermsIn.len {w : World} {a : Option Addr} {n c : Nat} {ts : List Tm} (h : TermsIn w a n c ts) : ts.length = n := h.is.len
theorem termsIn_some {w : World} {ad : Addr} {n c : Nat} {ts : List Tm} (h : IsTerms w (some ad) n ts) : TermsIn w (some ad) n c ts := ⟨h, partT_of h⟩
theorem OwnT.termsIn {base : Nat} {w : World} {v : Value} {ts : List Tm} (h : OwnT base w v ts) (hs : SmallT ts) : ∃ a c, v = .slice a ts.length c ∧ TermsIn w a ts.length c ts := by
  obtain ⟨a, c, rfl, hi⟩ := h.isTerms hs
  exact ⟨a, c, rfl, hi, partT_own h⟩
/-- What a function that tells a sum comes to. -/
def TermsT (W : World) (b : Bool) (n : Nat) (us : List Tm) (e : Ending) (w' : World) : Prop := (∃ a c, e = .returned (.tuple #[.slice a n c, .bool b]) ∧ TermsIn w' a n c us) ∧ Below W.heap.size W w'
theorem ITold.terms {W w' : World} {b : Bool} {L us : List Tm} {n : Nat} {e : Ending} (h : ITold W b L e w') (hs : SmallT us) (hu : cond b L [] = us) (hn : us.length = n) : TermsT W b n us e w' := by
  subst hn hu
  obtain ⟨⟨v, rfl, ho⟩, hb⟩ := h
  obtain ⟨a, c, rfl, hi⟩ := ho.termsIn hs
  exact ⟨⟨a, c, rfl, hi⟩, hb⟩
theorem STold.terms {W w' : World} {b : Bool} {L us : List Tm} {n : Nat} {e : Ending} (h : STold W b L e w') (hs : SmallT us) (hu : cond b L [] = us) (hn : us.length = n) : TermsT W b n us e w' := by
  obtain ⟨⟨v, rfl, ho⟩, hb⟩ := h
  exact ITold.terms ⟨⟨v, rfl, ho.own⟩, hb⟩ hs hu hn
theorem ofB_tw {x : List Tm} {b : Bool} (h : ofB x = b) : b = true → twB (canonT x) = true := by
  intro hb
  subst hb
  unfold ofB at h
  simp only [Bool.and_eq_true] at h
  exact (sumB_parts h.2).1

section
variable {W : World} {a a2 : Option Addr} {n c m c2 k : Nat} {x y us : List Tm} {b : Bool}
end

theorem termsIn_lit (w : World) (c : Int) (s : ByteArray) (hs : s.size ≤ maxLen) (hc : -9223372036854775808 ≤ c ∧ c ≤ 9223372036854775807) :
    TermsIn (w.alloc (.cells #[.int .i64 c, .string s] TI)) (some ⟨w.heap.size, 0, none⟩) 1 1 [⟨c, s⟩] :=
  termsIn_some ⟨rfl, by unfold maxLen; omega, fun _ => ⟨_, rfl, by simp, fun i hi => by
    have hi0 : i = 0 := by simp at hi; exact hi
    subst hi0
    have ha : ∀ j, (⟨w.heap.size, 0, none⟩ : Addr).add j = ⟨w.heap.size, j, none⟩ := fun j => by unfold Addr.add; split <;> simp_all
    rw [ha, ha]
    exact ⟨(World.cell?_alloc_at _ _ _ _ (by simp)).trans rfl, (World.cell?_alloc_at _ _ _ _ (by simp)).trans rfl⟩⟩,
    fun t ht => by rw [List.mem_singleton.1 ht]; exact ⟨hs, hc⟩⟩
theorem termsIn_one (w : World) (s : ByteArray) (hs : s.size ≤ maxLen) : TermsIn (w.alloc (.cells #[.int .i64 1, .string s] TI)) (some ⟨w.heap.size, 0, none⟩) 1 1 (oneS s) := termsIn_lit w 1 s hs (by omega)
theorem one_any (s : ByteArray) (W : World) : Calls Tryd.prog 9 #[.string s] W fun e w' => e = .returned (.slice (some ⟨W.heap.size, 0, none⟩) 1 1) ∧ Below W.heap.size W w' ∧ (s.size ≤ maxLen → TermsIn w' (some ⟨W.heap.size, 0, none⟩) 1 1 (oneS s)) := by
  go_enter Tryd.func9, Tryd.ntmps9
  go_wp2
  go_ret
  exact ⟨rfl, (Below.refl _ W).alloc (Nat.le_refl _) _, fun hs => termsIn_one W s hs⟩
theorem sameSum_t {w : World} {a1 a2 : Option Addr} {c1 c2 n : Nat} {ts : List Tm} (h1 : TermsIn w a1 n c1 ts) (h2 : TermsIn w a2 n c2 ts) :
    Calls Tryd.prog 7 #[.slice a1 n c1, .slice a2 n c2] w fun e w' => e = .returned (.bool true) ∧ Below w.heap.size w w' := sameSum_yes a1 a2 c1 c2 n ts w h1.is h2.is
/-- A sum that was drawn. -/
def SumV (base : Nat) (w' : World) (v : Value) : Prop := ∃ g c n ts, v = .slice (some ⟨g, 0, none⟩) n c ∧ base ≤ g ∧ TermsIn w' (some ⟨g, 0, none⟩) n c ts ∧ n ≤ 4 ∧ ∀ t ∈ ts, t.s.size ≤ 6 ∧ -20 ≤ t.c ∧ t.c ≤ 20

/-! ### What sums are told -/
theorem ofB_sum {x : List Tm} (h : sumB x = true) : ofB x = true := by
  unfold ofB
  rw [(sumB_parts h).1, sum_id h, h]; rfl
theorem twB_one : twB [] = true := rfl
theorem fit_of_words {x : List Tm} (h : WordsT x) : fitB x = true := List.all_eq_true.2 fun t ht => by
  have := ((wordB_iff _).1 (h t ht)).1
  have e : t.s.data.toList.length = t.s.size := by simp
  exact decide_eq_true (by omega)
theorem sum_oneS {s : ByteArray} (h : wordB s.data.toList = true) : sumB (oneS s) = true := by
  rw [sumB_canon ⟨by simp [oneS], fun t ht => by rw [List.mem_singleton.1 ht]; exact Int.one_ne_zero⟩]
  unfold twB termB inR oneS
  simp [h]
theorem addB_iff {x y : List Tm} : addB x y = true ↔ sumB x = true ∧ sumB y = true ∧ twB (canonT (x ++ y)) = true := by
  unfold addB; simp only [Bool.and_eq_true]
theorem prodB_iff {x y : List Tm} : prodB x y = true ↔ sumB x = true ∧ sumB y = true ∧ fitB (pairsT x y) = true ∧ twB (canonT (pairsT x y)) = true := by
  unfold prodB; simp only [Bool.and_eq_true]
theorem turnedB_iff {x : List Tm} : turnedB x = true ↔ sumB x = true ∧ twB (canonT (x.map (mapT backL))) = true := by
  unfold turnedB; simp only [Bool.and_eq_true]
theorem sumPutB_iff {x : List Tm} {zs : List ByteArray} : sumPutB x zs = true ↔ sumB x = true ∧ fourB zs = true ∧ fitB (x.map (mapT (putF zs))) = true ∧ twB (canonT (x.map (mapT (putF zs)))) = true := by
  unfold sumPutB; simp only [Bool.and_eq_true]
theorem coef_range {x : List Tm} (h : sumB x = true) (q : ByteArray) : -1000000 ≤ coefAt q x ∧ coefAt q x ≤ 1000000 := by
  by_cases hq : ∃ t ∈ x, t.s = q
  · obtain ⟨t, ht, rfl⟩ := hq
    rw [coefAt_get (canon_of_sum h) ht]
    exact ((sumB_small h).2.1 t ht).2
  · rw [coefAt_none fun t ht e => hq ⟨t, ht, e⟩]; omega
/-- A sum turned is a sum. -/
theorem turned_sum {x : List Tm} (h : sumB x = true) : turnedB x = true := by
  refine turnedB_iff.2 ⟨h, ?_⟩
  have hw := words_of_sum h
  obtain ⟨h3, _, _⟩ := sumB_small h
  have hlen : (canonT (x.map (mapT backL))).length ≤ 300 := by
    have := fold_len (x.map (mapT backL)) []
    rw [List.length_map] at this
    unfold canonT
    simp only [List.length_nil] at this
    omega
  refine twB_of hlen fun j hj => ?_
  have hm := List.getElem_mem hj
  obtain ⟨v, hv, e⟩ := canon_words hm
  obtain ⟨t, ht, rfl⟩ := List.mem_map.1 hv
  have hwt := hw t ht
  have hwb : wordB (canonT (x.map (mapT backL)))[j].s.data.toList = true := by
    rw [← e]
    show wordB (bstr (backL t.s.data.toList)).data.toList = true
    rw [bstr_toList]; exact word_back hwt
  have hc : (canonT (x.map (mapT backL)))[j].c = coefAt (bstr (backL (canonT (x.map (mapT backL)))[j].s.data.toList)) x := by
    rw [← coefAt_get (canonT_spec _).1 hm, (canonT_spec _).2, coef_lin, lin_map, coef_lin]
    refine linT_congr fun u hu => ?_
    have hlu := ((wordB_iff _).1 (hw u hu)).2.1
    have hlj := ((wordB_iff _).1 hwb).2.1
    unfold hitB
    by_cases hh : bstr (backL u.s.data.toList) = (canonT (x.map (mapT backL)))[j].s
    · rw [if_pos hh, if_pos (by rw [← hh, bstr_toList, back_back _ hlu, bstr_of])]
    · rw [if_neg hh, if_neg (fun e2 => hh (by rw [e2, bstr_toList, back_back _ hlj, bstr_of]))]
  have hr := coef_range h (bstr (backL (canonT (x.map (mapT backL)))[j].s.data.toList))
  unfold termB
  rw [hwb, Bool.true_and, hc]
  unfold inR
  simp only [Bool.and_eq_true, decide_eq_true_eq]
  exact hr
theorem plain_bnd {x : List Tm} (h : sumB x = true) : -300000000 ≤ plainZ x ∧ plainZ x ≤ 300000000 := by
  obtain ⟨h1, h2, _⟩ := sumB_small h
  have key : ∀ l : List Tm, (∀ t ∈ l, t.s.size ≤ 60 ∧ -1000000 ≤ t.c ∧ t.c ≤ 1000000) → -(1000000 * l.length : Int) ≤ plainZ l ∧ plainZ l ≤ 1000000 * l.length := fun l => by
    induction l with
    | nil => intro _; simp [plainZ]
    | cons t r ih =>
      intro hh
      have h3 := ih fun u hu => hh u (by simp [hu])
      have h4 := hh t (by simp)
      unfold plainZ at *
      rw [List.map_cons, List.sum_cons, List.length_cons]; omega
  have := key x h2
  omega

end Go.Proofs.YtdhmicpoigoleabDoor

/- The contracts of the model's draws of sums: 'l91Sum', 'l91Sums' and the draws of chapter 2 and of FoxSum. -/

namespace Go.Proofs.YtdhmicpoigoleabDoor
open Go.RowKit Go.Shelf

theorem OwnT.keptBut {base : Nat} {w w' : World} {v : Value} {ts : List Tm} (h : OwnT base w v ts) {rb : Nat} (hg : w.grownBy w' (some rb)) (hr : rb < base) : OwnT base w' v ts :=
  World.ownsRow.kept h hg (by
    cases hv : v.ownBlock with
    | none => exact .inl rfl
    | some k => exact .inr fun e => by have := (h.lt k hv).1; cases e; omega)
theorem TermsIn.keptBut {w w' : World} {g n c rb : Nat} {ts : List Tm} (h : TermsIn w (some ⟨g, 0, none⟩) n c ts) (hg : w.grownBy w' (some rb)) (hne : g ≠ rb) : TermsIn w' (some ⟨g, 0, none⟩) n c ts :=
  termsIn_some ⟨h.is.len, h.is.max, fun h0 => by
    obtain ⟨x, e, hx⟩ := h.is.at_ h0
    cases e
    refine ⟨_, rfl, Nat.lt_of_lt_of_le hx.1 hg.size, fun i hi => ?_⟩
    obtain ⟨h1, h2⟩ := hx.2 i hi
    exact ⟨hg.cell h1 (by rw [addr_add_block]; intro e; cases e; exact hne rfl), hg.cell h2 (by rw [addr_add_block]; intro e; cases e; exact hne rfl)⟩, h.is.small⟩
theorem SumV.keptBut {base : Nat} {w w' : World} {v : Value} {rb : Nat} (h : SumV base w v) (hg : w.grownBy w' (some rb)) (hr : rb < base) : SumV base w' v := by
  obtain ⟨g, c, n, ts, rfl, h1, h2, h3⟩ := h
  exact ⟨g, c, n, ts, rfl, h1, h2.keptBut hg (by omega), h3⟩
theorem SumV.mono {b1 b2 : Nat} {w : World} {v : Value} (h : SumV b1 w v) (hb : b2 ≤ b1) : SumV b2 w v := by
  obtain ⟨g, c, n, ts, rfl, h1, h2⟩ := h
  exact ⟨g, c, n, ts, rfl, Nat.le_trans hb h1, h2⟩

/-- Few small terms. -/
def FewT (ts : List Tm) : Prop := ts.length ≤ 4 ∧ ∀ t ∈ ts, t.s.size ≤ 6 ∧ -4 ≤ t.c ∧ t.c ≤ 4
theorem few_canon {ts : List Tm} (h : FewT ts) : (canonT ts).length ≤ 4 ∧ ∀ t ∈ canonT ts, t.s.size ≤ 6 ∧ -20 ≤ t.c ∧ t.c ≤ 20 := by
  refine ⟨by have := fold_len ts []; unfold canonT; simp only [List.length_nil] at this; have := h.1; omega, fun t ht => ?_⟩
  obtain ⟨v, hv, e⟩ := canon_words ht
  have h1 := fold_bound (C := 4) (by omega) ts [] 0 (by omega) (fun u hu => (h.2 u hu).2) (fun u hu => by cases hu) t ht
  have h2 := (h.2 v hv).1
  have h3 := h.1
  rw [← e]
  exact ⟨h2, by omega, by omega⟩
theorem few_small {ts : List Tm} (h : FewT ts) : SmallT ts := ⟨by have := h.1; unfold maxLen; omega, fun t ht => by have := h.2 t ht; unfold maxLen; omega⟩

end Go.Proofs.YtdhmicpoigoleabDoor

/- Series as functions of texts: products, inverses, reduced words; the depth of a commutator. -/

namespace Go.Proofs.YtdhmicpoigoleabDoor
open Go.RowKit

abbrev Fs := List UInt8 → Int
/-- The product of two series, at a text. -/
def conv : Fs → Fs → Fs
  | f, g, [] => f [] * g []
  | f, g, c :: r => f [] * g (c :: r) + conv (fun u => f (c :: u)) g r
def oneF : Fs := fun l => if l = [] then 1 else 0
theorem conv_congr : ∀ (w : List UInt8) {f f' g g' : Fs}, (∀ l, l.length ≤ w.length → f l = f' l) → (∀ l, l.length ≤ w.length → g l = g' l) → conv f g w = conv f' g' w
  | [], f, f', g, g', h1, h2 => by rw [conv, conv, h1 [] (by simp), h2 [] (by simp)]
  | c :: r, f, f', g, g', h1, h2 => by
    rw [conv, conv, h1 [] (by simp), h2 (c :: r) (Nat.le_refl _), conv_congr r (fun l hl => h1 (c :: l) (by simp; omega)) (fun l hl => h2 l (by simp; omega))]
theorem conv_add1 : ∀ (w : List UInt8) (f f' g : Fs), conv (fun l => f l + f' l) g w = conv f g w + conv f' g w
  | [], f, f', g => by rw [conv, conv, conv, Int.add_mul]
  | c :: r, f, f', g => by rw [conv, conv, conv, conv_add1 r, Int.add_mul]; omega
theorem conv_add2 : ∀ (w : List UInt8) (f g g' : Fs), conv f (fun l => g l + g' l) w = conv f g w + conv f g' w
  | [], f, g, g' => by rw [conv, conv, conv, Int.mul_add]
  | c :: r, f, g, g' => by rw [conv, conv, conv, conv_add2 r, Int.mul_add]; omega
theorem conv_sub1 : ∀ (w : List UInt8) (f f' g : Fs), conv (fun l => f l - f' l) g w = conv f g w - conv f' g w
  | [], f, f', g => by rw [conv, conv, conv, Int.sub_mul]
  | c :: r, f, f', g => by rw [conv, conv, conv, conv_sub1 r, Int.sub_mul]; omega
theorem conv_mul1 (k : Int) : ∀ (w : List UInt8) (f g : Fs), conv (fun l => k * f l) g w = k * conv f g w
  | [], f, g => by rw [conv, conv, Int.mul_assoc]
  | c :: r, f, g => by rw [conv, conv, conv_mul1 k r, Int.mul_add, Int.mul_assoc]
theorem conv_zero1 : ∀ (w : List UInt8) (g : Fs), conv (fun _ => 0) g w = 0
  | [], g => by rw [conv, Int.zero_mul]
  | c :: r, g => by rw [conv, conv_zero1 r, Int.zero_mul]; rfl
theorem conv_zero2 : ∀ (w : List UInt8) (f : Fs), conv f (fun _ => 0) w = 0
  | [], g => by rw [conv, Int.mul_zero]
  | c :: r, g => by rw [conv, conv_zero2 r, Int.mul_zero]; rfl
theorem conv_assoc : ∀ (w : List UInt8) (f g h : Fs), conv (conv f g) h w = conv f (conv g h) w
  | [], f, g, h => by rw [conv, conv, conv, conv, Int.mul_assoc]
  | c :: r, f, g, h => by
    have e : (fun u => conv f g (c :: u)) = fun u => f [] * g (c :: u) + conv (fun v => f (c :: v)) g u := by funext u; rw [conv]
    have h1 := conv_assoc r (fun v => f (c :: v)) g h
    rw [conv, e, conv_add1 r (fun u => f [] * g (c :: u)) (conv (fun v => f (c :: v)) g) h, conv_mul1, h1, conv, conv, conv, Int.mul_add, Int.mul_assoc]
    omega
theorem conv_one1 (w : List UInt8) (g : Fs) : conv oneF g w = g w := by
  cases w with
  | nil => rw [conv]; simp [oneF]
  | cons c r =>
    have e : (fun u => oneF (c :: u)) = fun _ => 0 := by funext u; simp [oneF]
    rw [conv, e, conv_zero1]; simp [oneF]
theorem conv_one2 : ∀ (w : List UInt8) (f : Fs), conv f oneF w = f w
  | [], f => by rw [conv]; simp [oneF]
  | c :: r, f => by rw [conv, conv_one2 r]; simp [oneF]
/-- Products of what is 0 below two degrees are 0 below their sum. -/
theorem conv_low : ∀ (w : List UInt8) (f g : Fs) (p q : Nat), (∀ l, l.length < p → f l = 0) → (∀ l, l.length < q → g l = 0) → w.length < p + q → conv f g w = 0
  | [], f, g, p, q, hf, hg, hw => by
    rw [conv]
    simp only [List.length_nil] at hw
    by_cases hp : 0 < p
    · rw [hf [] hp, Int.zero_mul]
    · rw [hg [] (by simp; omega), Int.mul_zero]
  | c :: r, f, g, p, q, hf, hg, hw => by
    rw [conv]
    simp only [List.length_cons] at hw
    have h1 : conv (fun u => f (c :: u)) g r = 0 := conv_low r _ g (p - 1) q (fun l hl => hf (c :: l) (by simp; omega)) hg (by omega)
    rw [h1]
    by_cases hp : 0 < p
    · rw [hf [] hp, Int.zero_mul]; rfl
    · rw [hg (c :: r) (by simp; omega), Int.mul_zero]; rfl

/-! ### Lists of terms as functions -/
def cf (x : List Tm) : Fs := fun l => coefAt (bstr l) x
def dl (a : List UInt8) (c : Int) : Fs := fun l => if a = l then c else 0
theorem conv_dl : ∀ (a : List UInt8) (c : Int) (b : List UInt8) (d : Int) (w : List UInt8), conv (dl a c) (dl b d) w = if a ++ b = w then c * d else 0
  | [], c, b, d, w => by
    cases w with
    | nil => rw [conv]; simp only [dl, List.nil_append]; by_cases h : b = [] <;> simp [h]
    | cons x r =>
      have e : (fun u => dl [] c (x :: u)) = fun _ => 0 := by funext u; simp [dl]
      rw [conv, e, conv_zero1]
      simp only [dl, List.nil_append]
      by_cases h : b = x :: r <;> simp [h]
  | y :: a, c, b, d, w => by
    cases w with
    | nil => rw [conv]; simp [dl]
    | cons x r =>
      have e0 : dl (y :: a) c [] = 0 := by simp [dl]
      rw [conv, e0, Int.zero_mul, Int.zero_add]
      by_cases h : y = x
      · subst h
        have e : (fun u => dl (y :: a) c (y :: u)) = dl a c := by funext u; simp [dl]
        rw [e, conv_dl a c b d r]
        simp
      · have e : (fun u => dl (y :: a) c (x :: u)) = fun _ => 0 := by funext u; simp [dl, h]
        rw [e, conv_zero1]
        simp [h]
theorem cf_nil : cf [] = fun _ => 0 := rfl
theorem bstr_eq {s : ByteArray} {l : List UInt8} : s = bstr l ↔ s.data.toList = l := ⟨fun h => by rw [h, bstr_toList], fun h => by rw [← h]; exact bytes_ext (by rw [bstr_toList])⟩
theorem cf_cons (t : Tm) (x : List Tm) : cf (t :: x) = fun l => dl t.s.data.toList t.c l + cf x l := by
  funext l
  unfold cf dl
  rw [coefAt]
  by_cases h : t.s.data.toList = l
  · rw [if_pos (bstr_eq.2 h), if_pos h]
  · rw [if_neg (fun e => h (bstr_eq.1 e)), if_neg h]
theorem conv_row (t : Tm) : ∀ (y : List Tm) (w : List UInt8), w.length ≤ 4 → cf (rowS t y) w = conv (dl t.s.data.toList t.c) (cf y) w
  | [], w, _ => by
    have e : cf (rowS t []) w = 0 := rfl
    rw [e, cf_nil, conv_zero2]
  | u :: r, w, hw => by
    have ih := conv_row t r w hw
    have e1 : cf ([pairS t u].filter short) w = if t.s.data.toList ++ u.s.data.toList = w then t.c * u.c else 0 := by
      rw [List.filter_cons, List.filter_nil]
      have hlen : (t.s ++ u.s).size = (t.s.data.toList ++ u.s.data.toList).length := by rw [append_size, List.length_append]; simp
      have hdat : (t.s ++ u.s).data.toList = t.s.data.toList ++ u.s.data.toList := by simp
      by_cases hs : (t.s ++ u.s).size ≤ 4
      · rw [if_pos (show short (pairS t u) = true from decide_eq_true hs), cf_cons, cf_nil]
        show dl (t.s ++ u.s).data.toList (t.c * u.c) w + 0 = _
        rw [hdat]; unfold dl; omega
      · rw [if_neg (show ¬ short (pairS t u) = true by unfold short pairS; simpa using hs), if_neg (fun e => hs (by rw [hlen, e]; exact hw))]; rfl
    have e2 : cf (rowS t (u :: r)) w = cf ([pairS t u].filter short) w + cf (rowS t r) w := by
      unfold cf; rw [rowS_cons, coefAt_append]
    rw [e2, e1, ih, cf_cons, conv_add2, conv_dl]
theorem conv_pairs : ∀ (x y : List Tm) (w : List UInt8), w.length ≤ 4 → cf (pairsS x y) w = conv (cf x) (cf y) w
  | [], y, w, _ => by rw [cf_nil, conv_zero1]; rfl
  | t :: r, y, w, hw => by
    have e : pairsS (t :: r) y = rowS t y ++ pairsS r y := by unfold pairsS rowS; rw [List.flatMap_cons]
    have e2 : cf (pairsS (t :: r) y) w = cf (rowS t y) w + cf (pairsS r y) w := by unfold cf; rw [e, coefAt_append]
    rw [e2, conv_row t y w hw, conv_pairs r y w hw, cf_cons, conv_add1]

/-! ### Words -/
def Eq4 (f g : Fs) : Prop := ∀ w, w.length ≤ 4 → f w = g w
theorem Eq4.refl (f : Fs) : Eq4 f f := fun _ _ => rfl
theorem Eq4.symm {f g : Fs} (h : Eq4 f g) : Eq4 g f := fun w hw => (h w hw).symm
theorem Eq4.trans {f g h : Fs} (h1 : Eq4 f g) (h2 : Eq4 g h) : Eq4 f h := fun w hw => (h1 w hw).trans (h2 w hw)
theorem Eq4.mul {f f' g g' : Fs} (h1 : Eq4 f f') (h2 : Eq4 g g') : Eq4 (conv f g) (conv f' g') := fun w hw => conv_congr w (fun l hl => h1 l (by omega)) (fun l hl => h2 l (by omega))
theorem eq4_assoc (f g h : Fs) : Eq4 (conv (conv f g) h) (conv f (conv g h)) := fun w _ => conv_assoc w f g h
theorem eq4_one1 (g : Fs) : Eq4 (conv oneF g) g := fun w _ => conv_one1 w g
theorem eq4_one2 (f : Fs) : Eq4 (conv f oneF) f := fun w _ => conv_one2 w f
def cs (l : List UInt8) : Fs := cf (serW l)
theorem cf_one : Eq4 (cf oneT) oneF := fun w _ => by
  unfold oneT
  rw [cf_cons, cf_nil]
  show dl [] 1 w + 0 = _
  unfold dl oneF
  by_cases h : w = []
  · simp [h]
  · rw [if_neg (Ne.symm h), if_neg h]; rfl
theorem cs_nil : Eq4 (cs []) oneF := cf_one
theorem cs_snoc (l : List UInt8) (c : UInt8) : Eq4 (cs (l ++ [c])) (conv (cs l) (cf (letS c))) := fun w hw => by
  unfold cs
  rw [← conv_pairs _ _ w hw, serW_snoc]
  exact (canonT_spec _).2 _
theorem cs_append (a b : List UInt8) : Eq4 (cs (a ++ b)) (conv (cs a) (cs b)) := by
  generalize hn : b.length = n
  induction n generalizing b with
  | zero =>
    rw [List.length_eq_zero_iff.1 hn, List.append_nil]
    exact ((Eq4.refl _).mul cs_nil |>.trans (eq4_one2 _)).symm
  | succ n ih =>
    obtain ⟨p, c, rfl⟩ := last_split b (by omega)
    have hp : p.length = n := by rw [List.length_append] at hn; simp at hn; exact hn
    rw [← List.append_assoc]
    refine (cs_snoc (a ++ p) c).trans ?_
    refine ((ih p hp).mul (Eq4.refl _)).trans ?_
    refine (eq4_assoc _ _ _).trans ?_
    exact (Eq4.refl _).mul (cs_snoc p c).symm
theorem cs_one (c : UInt8) : Eq4 (cs [c]) (cf (letS c)) := (cs_snoc [] c).trans ((cs_nil.mul (Eq4.refl _)).trans (eq4_one1 _))
instance : DecidableEq Tm := fun a b => if h : a.c = b.c ∧ a.s = b.s then isTrue (by cases a; cases b; simp at h; rw [h.1, h.2]) else isFalse (fun e => h (by rw [e]; exact ⟨rfl, rfl⟩))
theorem turn_facts : ∀ n : Fin 8, canonT (pairsS (letS (UInt8.ofNat (if n.val < 4 then 97 + n.val else 61 + n.val))) (letS (turnB (UInt8.ofNat (if n.val < 4 then 97 + n.val else 61 + n.val))))) = oneT := by decide +kernel
theorem turn_one {c : UInt8} (hc : letB c = true) : Eq4 (conv (cf (letS c)) (cf (letS (turnB c)))) oneF := fun w hw => by
  have h := let_cases (P := fun c => canonT (pairsS (letS c) (letS (turnB c))) = oneT) turn_facts hc
  rw [← conv_pairs _ _ w hw, ← cf_one w hw, ← h]
  exact ((canonT_spec _).2 _).symm
theorem turn_one2 {c : UInt8} (hc : letB c = true) : Eq4 (conv (cf (letS (turnB c))) (cf (letS c))) oneF := by
  obtain ⟨h1, h2⟩ := turn_turn c hc
  have := turn_one h2
  rwa [h1] at this
/-- A word and its inverse. -/
theorem cs_back (a : List UInt8) (ha : letL a = true) : Eq4 (conv (cs a) (cs (backL a))) oneF := by
  generalize hn : a.length = n
  induction n generalizing a with
  | zero =>
    rw [List.length_eq_zero_iff.1 hn]
    exact (cs_nil.mul cs_nil).trans (eq4_one1 _)
  | succ n ih =>
    obtain ⟨p, c, rfl⟩ := last_split a (by omega)
    have hp : p.length = n := by rw [List.length_append] at hn; simp at hn; exact hn
    rw [letL_append, Bool.and_eq_true] at ha
    have hc : letB c = true := by have := ha.2; simp [letL] at this; exact this
    have e : backL (p ++ [c]) = [turnB c] ++ backL p := by rw [backL_append]; rfl
    rw [e]
    refine ((cs_snoc p c).mul ((cs_append _ _).trans ((cs_one _).mul (Eq4.refl _)))).trans ?_
    refine (eq4_assoc _ _ _).trans ?_
    refine ((Eq4.refl _).mul ?_).trans (ih p ha.1 hp)
    refine (eq4_assoc _ _ _).symm.trans ?_
    exact ((turn_one hc).mul (Eq4.refl _)).trans (eq4_one1 _)
/-- Reducing changes nothing. -/
theorem cs_red : ∀ (s acc : List UInt8), letL s = true → Eq4 (cs (redL acc s)) (cs (acc ++ s))
  | [], acc, _ => by rw [redL_nil, List.append_nil]; exact Eq4.refl _
  | c :: s, acc, h => by
    rw [letL_cons, Bool.and_eq_true] at h
    have e : redL acc (c :: s) = redL (redStep acc c) s := rfl
    rw [e]
    refine (cs_red s (redStep acc c) h.2).trans ?_
    by_cases hl : acc.getLast? = some (turnB c)
    · obtain ⟨p, x, rfl⟩ := last_split acc (by cases acc with | nil => simp at hl | cons a l => simp)
      have hx : x = turnB c := by simpa using hl
      subst hx
      rw [redStep_pop p (turnB c) c rfl]
      have e2 : p ++ [turnB c] ++ c :: s = p ++ ([turnB c] ++ ([c] ++ s)) := by simp
      rw [e2]
      refine (cs_append p s).trans ?_
      refine Eq4.trans ?_ (cs_append p _).symm
      refine (Eq4.refl _).mul ?_
      refine Eq4.trans ?_ ((cs_append _ _).trans ((cs_one _).mul ((cs_append _ _).trans ((cs_one _).mul (Eq4.refl _))))).symm
      refine Eq4.trans ?_ (eq4_assoc _ _ _)
      exact (((turn_one2 h.1).mul (Eq4.refl _)).trans (eq4_one1 _)).symm
    · have e2 : redStep acc c = acc ++ [c] := by unfold redStep; rw [if_neg hl]
      rw [e2, List.append_assoc]
      exact Eq4.refl _
/-- What the series of a commutator lacks to 1 begins as late as those of its two words together. -/
theorem comm_low {a b : List UInt8} (ha : letL a = true) (hb : letL b = true) {p q : Nat} (hA0 : cs a [] = 1) (hB0 : cs b [] = 1) (hA : ∀ l, 0 < l.length → l.length < p → cs a l = 0) (hB : ∀ l, 0 < l.length → l.length < q → cs b l = 0)
    (w : List UInt8) (hw4 : w.length ≤ 4) (hw : w.length < p + q) : cs (a ++ b ++ backL a ++ backL b) w = oneF w := by
  obtain ⟨u, hu⟩ : ∃ u : Fs, u = fun l => cs a l - oneF l := ⟨_, rfl⟩
  obtain ⟨v, hv⟩ : ∃ v : Fs, v = fun l => cs b l - oneF l := ⟨_, rfl⟩
  have hu0 : ∀ l, l.length < p → u l = 0 := fun l hl => by
    rw [hu]
    cases l with
    | nil => simp [oneF, hA0]
    | cons c r => simp only [hA (c :: r) (by simp) hl]; simp [oneF]
  have hv0 : ∀ l, l.length < q → v l = 0 := fun l hl => by
    rw [hv]
    cases l with
    | nil => simp [oneF, hB0]
    | cons c r => simp only [hB (c :: r) (by simp) hl]; simp [oneF]
  have ea : cs a = fun l => oneF l + u l := by funext l; rw [hu]; show _ = oneF l + (cs a l - oneF l); omega
  have eb : cs b = fun l => oneF l + v l := by funext l; rw [hv]; show _ = oneF l + (cs b l - oneF l); omega
  have hR : ∀ l, l.length < p + q → conv (cs a) (cs b) l - conv (cs b) (cs a) l = 0 := fun l hl => by
    have h1 : conv (cs a) (cs b) l = oneF l + v l + (u l + conv u v l) := by
      rw [ea, conv_add1 l oneF u, conv_one1]
      rw [eb, conv_add2 l u oneF v, conv_one2]
    have h2 : conv (cs b) (cs a) l = oneF l + u l + (v l + conv v u l) := by
      rw [eb, conv_add1 l oneF v, conv_one1]
      rw [ea, conv_add2 l v oneF u, conv_one2]
    rw [h1, h2, conv_low l u v p q hu0 hv0 hl, conv_low l v u q p hv0 hu0 (by omega)]
    omega
  have hZ : Eq4 (cs (backL a ++ backL b)) (conv (cs (backL a)) (cs (backL b))) := cs_append _ _
  have h1 : cs (a ++ b ++ backL a ++ backL b) w = conv (conv (cs a) (cs b)) (conv (cs (backL a)) (cs (backL b))) w := by
    rw [List.append_assoc (a ++ b)]
    exact (((cs_append _ _).trans ((cs_append a b).mul hZ)) w hw4)
  have h2 : conv (conv (cs b) (cs a)) (conv (cs (backL a)) (cs (backL b))) w = oneF w := by
    have : Eq4 (conv (conv (cs b) (cs a)) (conv (cs (backL a)) (cs (backL b)))) oneF := by
      refine (eq4_assoc _ _ _).trans ?_
      refine ((Eq4.refl _).mul ((eq4_assoc _ _ _).symm.trans (((cs_back a ha).mul (Eq4.refl _)).trans (eq4_one1 _)))).trans ?_
      exact cs_back b hb
    exact this w hw4
  have h3 : conv (fun l => conv (cs a) (cs b) l - conv (cs b) (cs a) l) (conv (cs (backL a)) (cs (backL b))) w = 0 := conv_low w _ _ (p + q) 0 hR (fun l hl => absurd hl (Nat.not_lt_zero _)) (by omega)
  rw [conv_sub1 w (conv (cs a) (cs b)) (conv (cs b) (cs a))] at h3
  rw [h1]
  omega

theorem letL_redL : ∀ (s acc : List UInt8), letL s = true → letL acc = true → letL (redL acc s) = true
  | [], _, _, h => h
  | c :: s, acc, h, ha => by
    rw [letL_cons, Bool.and_eq_true] at h
    refine letL_redL s (redStep acc c) h.2 ?_
    unfold redStep
    split
    · exact List.all_eq_true.2 fun x hx => List.all_eq_true.1 ha x (List.dropLast_subset _ hx)
    · rw [letL_append, ha, letL_cons, h.1]; rfl

/-! ### Depths -/
theorem depth_below {ts : List Tm} (hc : Canon ts) (h1 : coefAt noS ts = 1) {q : ByteArray} (h0 : 0 < q.size) (hq : q.size < depthT ts) : coefAt q ts = 0 := by
  obtain ⟨u, r, rfl, hu, _, hr⟩ := canon_first hc h1
  obtain ⟨h2, h3⟩ := List.pairwise_cons.1 hc.1
  cases r with
  | nil =>
    rw [depthT, if_pos (no_iff.1 hu)] at hq
    exact absurd hq (Nat.not_lt_zero _)
  | cons t r =>
    rw [depthT, if_pos (no_iff.1 hu), depthT, if_neg (hr t (by simp))] at hq
    obtain ⟨h4, h5⟩ := List.pairwise_cons.1 h3
    refine coefAt_none fun v hv e => ?_
    rcases List.mem_cons.1 hv with rfl | hv
    · rw [hu] at e; rw [← e] at h0; exact absurd h0 (Nat.not_lt_zero _)
    · rcases List.mem_cons.1 hv with rfl | hv
      · rw [e] at hq; omega
      · have := h4 v hv
        rw [e] at this
        unfold lessW at this
        split at this
        · omega
        · have := of_decide_eq_true this; omega
theorem depth_at {ts : List Tm} (hc : Canon ts) (h1 : coefAt noS ts = 1) (hd : depthT ts ≠ 0) : ∃ t ∈ ts, t.s.size = depthT ts ∧ coefAt t.s ts ≠ 0 := by
  obtain ⟨u, r, rfl, hu, _, hr⟩ := canon_first hc h1
  cases r with
  | nil =>
    rw [depthT, if_pos (no_iff.1 hu)] at hd
    exact absurd rfl hd
  | cons t r =>
    refine ⟨t, by simp, ?_, ?_⟩
    · rw [depthT, if_pos (no_iff.1 hu), depthT, if_neg (hr t (by simp))]
    · rw [coefAt_get hc (by simp)]; exact hc.2 t (by simp)
theorem cs_at (l : List UInt8) (q : ByteArray) : cs l q.data.toList = coefAt q (serW l) := by
  unfold cs cf
  rw [show bstr q.data.toList = q from (bstr_eq.2 rfl).symm]
/-- The depth of a commutator is not less than those of its two words together. -/
theorem depth_comm {a b : List UInt8} (ha : letL a = true) (hb : letL b = true) (hn : depthT (serW (redL [] (commL a b))) ≠ 0) (hp : depthT (serW a) ≠ 0) (hq : depthT (serW b) ≠ 0) (hl : letL (redL [] (commL a b)) = true) :
    depthT (serW a) + depthT (serW b) ≤ depthT (serW (redL [] (commL a b))) := by
  have hlc : letL (commL a b) = true := by unfold commL; rw [letL_append, letL_append, letL_append, ha, hb, letL_back a ha, letL_back b hb]; rfl
  have hok := serW_ok _ hl
  obtain ⟨t, ht, hts, htc⟩ := depth_at hok.canon (serW_no _ hl) hn
  by_cases hlt : depthT (serW a) + depthT (serW b) ≤ depthT (serW (redL [] (commL a b)))
  · exact hlt
  · exfalso
    apply htc
    have h4 : t.s.size ≤ 4 := mono_size (hok.mono t ht)
    have hlen : t.s.data.toList.length = t.s.size := by simp
    have h1 := cs_red (commL a b) [] hlc t.s.data.toList (by omega)
    rw [List.nil_append] at h1
    have h2 := comm_low ha hb (p := depthT (serW a)) (q := depthT (serW b)) (by have := serW_no a ha; exact this) (by have := serW_no b hb; exact this)
      (fun l h0 h5 => by
        have := depth_below (serW_ok a ha).canon (serW_no a ha) (q := bstr l) (by have : (bstr l).data.toList.length = l.length := by rw [bstr_toList]
                                                                                  have e : (bstr l).size = (bstr l).data.toList.length := by simp
                                                                                  omega) (by
          have : (bstr l).data.toList.length = l.length := by rw [bstr_toList]
          have e : (bstr l).size = (bstr l).data.toList.length := by simp
          omega)
        exact this)
      (fun l h0 h5 => by
        have := depth_below (serW_ok b hb).canon (serW_no b hb) (q := bstr l) (by have : (bstr l).data.toList.length = l.length := by rw [bstr_toList]
                                                                                  have e : (bstr l).size = (bstr l).data.toList.length := by simp
                                                                                  omega) (by
          have : (bstr l).data.toList.length = l.length := by rw [bstr_toList]
          have e : (bstr l).size = (bstr l).data.toList.length := by simp
          omega)
        exact this) t.s.data.toList (by omega) (by omega)
    rw [← cs_at, h1]
    have h3 : cs (commL a b) t.s.data.toList = oneF t.s.data.toList := h2
    rw [h3]
    unfold oneF
    rw [if_neg (fun e => by rw [e] at hlen; simp at hlen; omega)]

end Go.Proofs.YtdhmicpoigoleabDoor

/- The contracts of the program's 'series' of a letter and of a word, and of 'SeriesOf'. -/

namespace Go.Proofs.YtdhmicpoigoleabDoor
open Go.RowKit Go.Shelf

theorem altZ_succ (k : Nat) : altZ (k + 1) = -altZ k := by unfold altZ; split <;> split <;> omega
theorem altZ_one (k : Nat) : altZ k = 1 ∨ altZ k = -1 := by unfold altZ; split <;> simp
theorem bstr_app (a b : List UInt8) : bstr a ++ bstr b = bstr (a ++ b) := bytes_ext (by simp [bstr_toList])
theorem powS_next (c : UInt8) (k : Nat) : bstr (repL k (letX c)) ++ bstr (letX c) = bstr (repL (k + 1) (letX c)) := by rw [bstr_app, ← repL_add, repL_one]
theorem powS_size (c : UInt8) (k : Nat) : (bstr (repL k (letX c))).size = k := by
  have : (bstr (repL k (letX c))).data.toList.length = k := by rw [bstr_toList, repL_len]; simp [letX]
  simpa using this
theorem powT_fresh (c : UInt8) (k : Nat) : ∀ t ∈ (List.range (k + 1)).map (powT c), t.s ≠ bstr (repL (k + 1) (letX c)) := fun t ht => by
  obtain ⟨i, hi, rfl⟩ := List.mem_map.1 ht
  have := List.mem_range.1 hi
  intro e
  have e2 := congrArg ByteArray.size e
  unfold powT at e2
  rw [powS_size, powS_size] at e2
  omega
theorem powT_put (c : UInt8) (k : Nat) : (putT ((List.range (k + 1)).map (powT c)) (bstr (repL (k + 1) (letX c))) (altZ (k + 1))).Perm ((List.range (k + 2)).map (powT c)) := by
  rw [put_fresh (powT_fresh c k), List.range_succ (n := k + 1), List.map_append]
  exact List.perm_append_comm (l₁ := [powT c (k + 1)])

section
attribute [local go_sem] Oper.semAt_some
end

end Go.Proofs.YtdhmicpoigoleabDoor

/- The contracts of the program's 'series' of a word and of 'SeriesOf'. -/

namespace Go.Proofs.YtdhmicpoigoleabDoor
open Go.RowKit Go.Shelf

attribute [local go_sem] Oper.semAt_some

theorem serW_bnd {us : List Tm} {l : List UInt8} (ha : Apart us) (hl : letL l = true) (h60 : l.length ≤ 60) (hq : ∀ q, coefAt q us = coefAt q (serW l)) : BndT 1000000 us := by
  have hok := serW_ok l hl
  refine apart_bnd ha (fun t ht => ?_) (by omega)
  rw [canon_same hq, canon_id hok.canon] at ht
  exact ((hok.ser h60).2 t ht).2
theorem letS_bnd {c : UInt8} (hc : letB c = true) : BndT 1000000 (letS c) := fun t ht => by have := (letS_ok hc).1 t ht; omega
theorem letS_mono {c : UInt8} (hc : letB c = true) : MonoT (letS c) := fun t ht => ((letS_ok hc).1 t ht).1

theorem sSeriesOf_law {s : ByteArray} {b : Bool} {w : World} (hs : s.size ≤ maxLen) (hb : wordB s.data.toList = b) :
    Calls Tryd.prog 21 #[.string s] w (STold w b (serW s.data.toList)) := sSeriesOf_any s b w hs hb
end Go.Proofs.YtdhmicpoigoleabDoor

/- The contracts of the program's 'SeriesCoef' and 'SeriesDepth'. -/

namespace Go.Proofs.YtdhmicpoigoleabDoor
open Go.RowKit Go.Shelf

end Go.Proofs.YtdhmicpoigoleabDoor

/- Series as coefficients up to the fourth degree; the contracts of both sides' functions on series, the answer under a name of its own. -/

namespace Go.Proofs.YtdhmicpoigoleabDoor
open Go.RowKit Go.Shelf

/-- Two lists that have the same coefficients up to the fourth degree. -/
theorem ser_eq {x y : List Tm} (hx : Canon x) (hy : Canon y) (mx : MonoT x) (my : MonoT y) (h : Eq4 (cf x) (cf y)) : x = y :=
  canon_unique hx hy fun q => by
    have hq := toList_size q
    by_cases h4 : q.size ≤ 4
    · have := h q.data.toList (by omega)
      unfold cf at this
      rwa [bstr_of] at this
    · rw [coefAt_none fun t ht e => h4 (by rw [← e]; exact mono_size (mx t ht)), coefAt_none fun t ht e => h4 (by rw [← e]; exact mono_size (my t ht))]
theorem cf_canon (x : List Tm) : cf (canonT x) = cf x := by funext l; unfold cf; exact (canonT_spec x).2 _
theorem cf_pairs (x y : List Tm) : Eq4 (cf (canonT (pairsS x y))) (conv (cf x) (cf y)) := fun w hw => by rw [cf_canon]; exact conv_pairs x y w hw
theorem mono_canon {x : List Tm} (h : MonoT x) : MonoT (canonT x) := fun t ht => by
  obtain ⟨v, hv, e⟩ := canon_words ht
  rw [← e]; exact h v hv
theorem mono_pairs {x y : List Tm} (hx : MonoT x) (hy : MonoT y) : MonoT (canonT (pairsS x y)) := mono_canon (pairsS_mono hx hy)
theorem mono_ser {x : List Tm} (h : serB x = true) : MonoT x := fun t ht => ((serB_parts h).2.1 t ht).2.2
theorem canon_ser {x : List Tm} (h : serB x = true) : Canon x := (serB_parts h).2.2
theorem mono_serW {l : List UInt8} (h : letL l = true) : MonoT (serW l) := (serW_ok l h).mono
theorem canon_serW {l : List UInt8} (h : letL l = true) : Canon (serW l) := (serW_ok l h).canon
theorem monoT_one : MonoT oneT := fun t ht => by rw [List.mem_singleton.1 ht]; rfl
theorem canon_one : Canon oneT := ⟨by simp [oneT], fun t ht => by rw [List.mem_singleton.1 ht]; exact Int.one_ne_zero⟩
theorem ser_one : serB oneT = true := by rw [serB_canon canon_one]; decide
theorem ser_times_one {x : List Tm} (h : serB x = true) : canonT (pairsS x oneT) = x :=
  ser_eq (canonT_spec _).1 (canon_ser h) (mono_pairs (mono_ser h) monoT_one) (mono_ser h) ((cf_pairs x oneT).trans (((Eq4.refl _).mul cf_one).trans (eq4_one2 _)))
theorem ser_one_times {x : List Tm} (h : serB x = true) : canonT (pairsS oneT x) = x :=
  ser_eq (canonT_spec _).1 (canon_ser h) (mono_pairs monoT_one (mono_ser h)) (mono_ser h) ((cf_pairs oneT x).trans ((cf_one.mul (Eq4.refl _)).trans (eq4_one1 _)))
theorem serProdB_iff {x y : List Tm} : serProdB x y = true ↔ serB x = true ∧ serB y = true ∧ twS (canonT (pairsS x y)) = true := by
  unfold serProdB; simp only [Bool.and_eq_true]
theorem tw_ser {x : List Tm} (h : serB x = true) : twS x = true := by rw [← serB_canon (canon_ser h)]; exact h
theorem ser_of_tw {x : List Tm} (h : twS (canonT x) = true) : serB (canonT x) = true := by rw [serB_canon (canonT_spec x).1]; exact h

section
variable {W : World} {a a2 : Option Addr} {n c m c2 k : Nat} {x y us : List Tm} {s : ByteArray} {b : Bool}
theorem iSeriesIn_t (h : TermsIn W a n c x) (hb : serB x = b) : Calls Tryd.prog 24 #[.slice a n c] W fun e w' => e = .returned (.bool b) ∧ Below W.heap.size W w' := iSeriesIn_is _ _ _ x b W h.is hb
theorem sSeriesIn_t (h : TermsIn W a n c x) (hb : serB x = b) : Calls Tryd.prog 16 #[.slice a n c] W fun e w' => e = .returned (.bool b) ∧ Below W.heap.size W w' := sSeriesIn_is _ _ _ x b W h.is hb
theorem sSeriesOf_t (hs : s.size ≤ maxLen) (hb : wordB s.data.toList = b) (hu : cond b (serW s.data.toList) [] = us) (hk : us.length = k) : Calls Tryd.prog 21 #[.string s] W (TermsT W b k us) :=
  (sSeriesOf_any s b W hs hb).mono fun _ _ hh => hh.terms (told_smallS (serW_tw hb) hu).1 hu hk
theorem iSeriesTimes_t (h : TermsIn W a n c x) (h2 : TermsIn W a2 m c2 y) (hb : serProdB x y = b) (hu : cond b (canonT (pairsS x y)) [] = us) (hk : us.length = k) :
    Calls Tryd.prog 8 #[.slice a n c, .slice a2 m c2] W (TermsT W b k us) := by
  have hs := (told_smallS (serProdB_tw hb) hu).1
  unfold serProdB at hb
  cases hx : serB x with
  | false =>
    rw [hx] at hb
    obtain rfl : false = b := hb
    exact (iSeriesTimes_no _ _ _ _ _ _ x y W h.is h2.is (.inl hx)).mono fun _ _ hh => ITold.terms (b := false) (L := []) hh hs (by rw [← hu]; rfl) hk
  | true =>
    cases hy : serB y with
    | false =>
      rw [hx, hy] at hb
      obtain rfl : false = b := hb
      exact (iSeriesTimes_no _ _ _ _ _ _ x y W h.is h2.is (.inr hy)).mono fun _ _ hh => ITold.terms (b := false) (L := []) hh hs (by rw [← hu]; rfl) hk
    | true =>
      rw [hx, hy] at hb
      exact (iSeriesTimes_yes _ _ _ _ _ _ x y b W h.is h2.is hx hy hb).mono fun _ _ hh => hh.terms hs hu hk
end

end Go.Proofs.YtdhmicpoigoleabDoor

/- The contract of the program's 'WordCore'. -/

namespace Go.Proofs.YtdhmicpoigoleabDoor
open Go.RowKit Go.Shelf

theorem letters_core {g off : Nat} {l : List UInt8} {w : World} (h : Letters g off l w) : Letters g (off + 1) (l.tail.dropLast) w :=
  ⟨h.1, fun j hj => by
    have := h.2 (j + 1) (by simp at hj; omega)
    rw [core_get l j hj, show off + 1 + j = off + (j + 1) by omega]
    exact this⟩

end Go.Proofs.YtdhmicpoigoleabDoor

/- The contracts of both sides' functions on words, the answer under a name of its own. -/

namespace Go.Proofs.YtdhmicpoigoleabDoor
open Go.RowKit Go.Shelf

/-- A text that is a row of letters. -/
def Is (x : ByteArray) (l : List UInt8) : Prop := x.data.toList = l
theorem Is.eq {x : ByteArray} {l : List UInt8} (h : Is x l) : bstr l = x := by unfold Is at h; rw [← h]; exact bstr_of x
theorem is_of (l : List UInt8) : ∃ x, Is x l := ⟨bstr l, bstr_toList l⟩
theorem Is.size {x : ByteArray} {l : List UInt8} (h : Is x l) : x.size = l.length := by unfold Is at h; rw [← h]; simp
theorem Is.same {x y : ByteArray} {l : List UInt8} (h : Is x l) (h2 : Is y l) : x = y := by rw [← h.eq, h2.eq]
def OutT (x : ByteArray) (W : World) (e : Ending) (w' : World) : Prop := e = .returned (.tuple #[.string x, .bool true]) ∧ Below W.heap.size W w'
theorem toldV_is {x : ByteArray} {l : List UInt8} (h : Is x l) (hx : x.size ≤ 60) : toldV l = .tuple #[.string x, .bool true] := by
  rw [toldV_yes (by have := h.size; omega), h.eq]

theorem sWordIn_t {s : ByteArray} {b : Bool} (hs : s.size ≤ maxLen) (h : wordB s.data.toList = b) (W : World) :
    Calls Tryd.prog 38 #[.string s] W fun e w' => e = .returned (.bool b) ∧ Below W.heap.size W w' := by
  rw [← h]; exact sWordIn_any s W hs
/-- Sizes of what words come to. -/
theorem word_of_is {x : ByteArray} {l : List UInt8} (hl : letL l = true) (h : Is x (redL [] l)) (h60 : x.size ≤ 60) : wordB x.data.toList = true := by
  have hsz := h.size
  unfold Is at h
  rw [h]; exact word_of_red hl (by omega)
theorem is_red_size {x : ByteArray} {l : List UInt8} (h : Is x (redL [] l)) : x.size ≤ l.length := by
  have := redL_len l []
  rw [h.size]; simpa using this

end Go.Proofs.YtdhmicpoigoleabDoor

/- The contracts of the model's draws of series: 'l91Series' and the draws of chapter 4. -/

namespace Go.Proofs.YtdhmicpoigoleabDoor
open Go.RowKit Go.Shelf

/-- A series that was drawn, or another list. -/
def SerV (base : Nat) (w' : World) (v : Value) : Prop := ∃ g c n ts, v = .slice (some ⟨g, 0, none⟩) n c ∧ base ≤ g ∧ TermsIn w' (some ⟨g, 0, none⟩) n c ts
theorem SerV.keptBut {base : Nat} {w w' : World} {v : Value} {rb : Nat} (h : SerV base w v) (hg : w.grownBy w' (some rb)) (hr : rb < base) : SerV base w' v := by
  obtain ⟨g, c, n, ts, rfl, h1, h2⟩ := h
  exact ⟨g, c, n, ts, rfl, h1, h2.keptBut hg (by omega)⟩
theorem SerV.mono {b1 b2 : Nat} {w : World} {v : Value} (h : SerV b1 w v) (hb : b2 ≤ b1) : SerV b2 w v := by
  obtain ⟨g, c, n, ts, rfl, h1, h2⟩ := h
  exact ⟨g, c, n, ts, rfl, Nat.le_trans hb h1, h2⟩

set_option maxRecDepth 100000 in
set_option maxHeartbeats 4000000 in
theorem l91Series_any (base rb : Nat) (a : Option Addr) (n cap : Nat) (zs : List Int) (p : Nat) (w : World) (h : Rd base w rb a n cap zs p) (hp : p ≤ 80000) :
    Calls Tryd.prog 10 #[.pointer (some ⟨rb, 0, none⟩)] w fun e w' => (∃ v, e = .returned v ∧ SerV w.heap.size w' v) ∧ (∃ p', p' ≤ p + 300 ∧ Rd base w' rb a n cap zs p') ∧ Below base w w' ∧ w.grownBy w' (some rb) := by
  have hlo := h.lo
  have hrl := h.lt
  have H := Lib.hid h
  clear h
  go_enter Tryd.func10, Tryd.ntmps10
  go_wp2_with fail
  refine (l91Word_grown base rb a n cap zs p 5 2 w H.out (by omega) (by omega) (by omega) (by omega)).mono ?_
  rintro e w1 ⟨⟨s, rfl, hs⟩, ⟨p1, hp1, hR1⟩, hB1, hG1⟩
  have HR1 := Lib.hid hR1
  have HB1 := Lib.hid hB1
  have HG1 := Lib.hid hG1
  have hs1 := hG1.size
  have hsm : s.size ≤ maxLen := by unfold maxLen; omega
  clear hR1 hB1 hG1
  cases hb : wordB s.data.toList with
  | false =>
    have HW := Lib.hid hb
    clear hb
    go_wp2_with fail
    refine (sSeriesOf_any s false _ hsm HW.out).mono ?_
    rintro e w2 ⟨⟨v, rfl, _⟩, hb2⟩
    have hba : Below w2.heap.size w2 (w2.alloc (.cells #[.int .i64 1, .string { data := #[65] }] TI)) := (Below.refl w2.heap.size w2).alloc (Nat.le_refl _) _
    have hs2 := hb2.size
    have HR3 := Lib.hid ((HR1.out.below hb2).below hba)
    have HB3 := Lib.hid ((HB1.out.trans (hb2.mono (by omega))).trans (hba.mono (by omega)))
    have HG3 := Lib.hid ((HG1.out.trans (grownAny_of_below hb2 _)).trans (grownAny_of_below hba _))
    have HT := Lib.hid (termsIn_lit w2 1 { data := #[65] } (by decide) (by omega))
    clear hb2 hba
    go_wp2
    go_ret
    exact ⟨⟨_, rfl, _, _, _, _, rfl, by omega, HT.out⟩, ⟨_, by omega, HR3.out⟩, HB3.out, HG3.out⟩
  | true =>
    have hl := ((wordB_iff _).1 hb).2.1
    have HW := Lib.hid hb
    obtain ⟨ts, hts⟩ : ∃ ts, serW s.data.toList = ts := ⟨_, rfl⟩
    have hpos : 0 < ts.length := by rw [← hts]; exact first_pos (canon_serW hl) (serW_no _ hl)
    obtain ⟨hsmall, hlen⟩ := told_smallS (b := true) (serW_tw hb) (us := ts) (by rw [← hts]; rfl)
    obtain ⟨N, hN⟩ : ∃ N, ts.length = N := ⟨_, rfl⟩
    have HTS := Lib.hid hts
    have HSM := Lib.hid hsmall
    have HN := Lib.hid hN
    rw [hN] at hpos hlen
    have hpi : (0 : Int) < (N : Int) := by omega
    have hpd : decide ((0 : Int) < (N : Int)) = true := decide_eq_true hpi
    have hpd2 : decide (0 < N) = true := decide_eq_true hpos
    clear hb hl hts hsmall hN
    go_wp2_with fail
    refine (sSeriesOf_any s true _ hsm HW.out).mono ?_
    rintro e w2 ⟨⟨v, rfl, ho⟩, hb2⟩
    have ho : OwnTerms w1.heap.size w2 v (serW s.data.toList) := ho
    rw [HTS.out] at ho
    obtain ⟨g, c, rfl, hO⟩ := ho
    have hg : w1.heap.size ≤ g := (hO.lt g rfl).1
    have hO : OwnT w1.heap.size w2 (.slice (some ⟨g, 0, none⟩) ts.length c) ts := hO
    have hs2 := hb2.size
    have HR2 := Lib.hid (HR1.out.below hb2)
    have HB2 := Lib.hid (HB1.out.trans (hb2.mono (by omega)))
    have HG2 := Lib.hid (HG1.out.trans (grownAny_of_below hb2 _))
    rw [HN.out] at hO ⊢
    have HO := Lib.hid hO
    have hrb1 := HR1.out.lt
    clear hO hb2
    go_wp2_with fail
    refine (pick_any base rb a n cap zs p1 16 w2 HR2.out (by omega) (by omega) (by omega)).mono ?_
    rintro e w3 ⟨⟨z, rfl, hz⟩, hR3, hB3, hG3⟩
    have HO3 := Lib.hid (HO.out.keptBut hG3 (by omega))
    have HR3 := Lib.hid hR3
    have HB3 := Lib.hid (HB2.out.trans hB3)
    have HG3 := Lib.hid (HG2.out.trans hG3)
    have hs3 := hG3.size
    clear hR3 hB3 hG3
    by_cases hz0 : z = 0
    · subst hz0
      obtain ⟨t, r, htr⟩ : ∃ t r, ts = t :: r := by
        cases ts with
        | nil => have := HN.out; simp at this; omega
        | cons t r => exact ⟨t, r, rfl⟩
      have hown := HO3.out
      unfold OwnT at hown
      rw [HN.out] at hown
      have hst := hown.stored 0 (.int .i64 2)
      have hset : (termsV ts).set 0 (.int .i64 2) = termsV (⟨2, t.s⟩ :: r) := by rw [htr]; rfl
      rw [hset] at hst
      have hfr := hown.frozenAt 0
      have hc0 : w3.cell? ⟨g, 0, none⟩ = some (.int .i64 t.c) := by rw [hown.cellAt 0 (by omega), htr]; rfl
      have hgl := (hown.lt g rfl).2
      have hlen2 : (⟨2, t.s⟩ :: r : List Tm).length = N := by rw [← HN.out, htr]; rfl
      have hO4 : OwnT w1.heap.size (w3.setCell ⟨g, 0, none⟩ (.int .i64 2)) (.slice (some ⟨g, 0, none⟩) N c) (⟨2, t.s⟩ :: r) := by unfold OwnT; rw [hlen2]; exact hst.1
      have hsm4 : SmallT (⟨2, t.s⟩ :: r : List Tm) := ⟨by rw [hlen2]; unfold maxLen; omega, fun u hu => by
        rcases List.mem_cons.1 hu with rfl | hu
        · exact ⟨(HSM.out.2 t (by rw [htr]; simp)).1, by show (-9223372036854775808 : Int) ≤ 2; omega, by show (2 : Int) ≤ 9223372036854775807; omega⟩
        · exact HSM.out.2 u (by rw [htr]; simp [hu])⟩
      obtain ⟨a5, c5, e5, hT⟩ := hO4.termsIn hsm4
      rw [hlen2] at e5 hT
      obtain ⟨rfl, rfl⟩ : a5 = some ⟨g, 0, none⟩ ∧ c5 = c := by cases e5; exact ⟨rfl, rfl⟩
      have hB4 : Below w1.heap.size w3 (w3.setCell ⟨g, 0, none⟩ (.int .i64 2)) := (Below.refl _ w3).setCell (p := ⟨g, 0, none⟩) hg _
      have HT := Lib.hid hT
      have HR4 := Lib.hid (HR3.out.past hB4 (by omega))
      have HB4 := Lib.hid (HB3.out.trans (hB4.mono (by omega)))
      have HG4 : Hid (w.grownBy (w3.setCell ⟨g, 0, none⟩ (.int .i64 2)) (some rb)) := Lib.hid (HG3.out.past hB4)
      clear htr hown hst hset hlen2 hO4 hsm4 e5 hT hB4
      go_wp2
      go_ret
      exact ⟨⟨_, rfl, _, _, _, _, rfl, by omega, HT.out⟩, ⟨_, by omega, HR4.out⟩, HB4.out, HG4.out⟩
    · have hzi : ((z : Int) == 0) = false := by simpa using hz0
      have hzn : ¬ (z : Int) = 0 := by omega
      obtain ⟨a5, c5, e5, hT⟩ := HO3.out.termsIn HSM.out
      rw [HN.out] at e5 hT
      obtain ⟨rfl, rfl⟩ : a5 = some ⟨g, 0, none⟩ ∧ c5 = c := by cases e5; exact ⟨rfl, rfl⟩
      have HT := Lib.hid hT
      clear e5 hT
      go_wp2
      go_ret
      exact ⟨⟨_, rfl, _, _, _, _, rfl, by omega, HT.out⟩, ⟨_, by omega, HR3.out⟩, HB3.out, HG3.out⟩

set_option maxRecDepth 100000 in
theorem drawSeriesTurned_any (a : Option Addr) (n cap : Nat) (zs : List Int) (w : World) (h : BsAt w.heap.size w a n cap zs) :
    Calls Tryd.prog 4 #[.slice a n cap] w fun e w' => (∃ v, e = .returned v ∧ SerV w.heap.size w' v) ∧ Below w.heap.size w w' := by
  have HO := Lib.hid (open_any a n cap zs w h)
  clear h
  go_enter Tryd.func4, Tryd.ntmps4
  go_wp2_with fail
  refine HO.out.mono ?_
  rintro e w1 ⟨n', zs', rfl, hR1, hB1⟩
  have HR1 := Lib.hid hR1
  have HB1 := Lib.hid hB1
  have hs1 := hB1.size
  clear hR1 hB1
  go_wp2_with fail
  refine (l91Series_any w.heap.size w.heap.size a n' cap zs' 0 w1 HR1.out (by omega)).mono ?_
  rintro e w2 ⟨⟨v, rfl, hv⟩, _, hB2, _⟩
  have HV := Lib.hid hv
  have HB2 := Lib.hid (HB1.out.trans hB2)
  clear hB2 hv
  go_wp2
  go_ret
  exact ⟨⟨v, rfl, HV.out.mono hs1⟩, HB2.out⟩

end Go.Proofs.YtdhmicpoigoleabDoor

/- The sum of the powers of 1 less a series is its inverse, on both sides. -/

namespace Go.Proofs.YtdhmicpoigoleabDoor
open Go.RowKit Go.Shelf

theorem cf_append (x y : List Tm) : cf (x ++ y) = fun l => cf x l + cf y l := by funext l; unfold cf; exact coefAt_append _ _ _
theorem cf_rest {x : List Tm} (hh : headB x = true) : Eq4 (cf x) (fun l => oneF l - cf (restT x) l) := fun w hw => by
  have h1 := rest_coef hh (bstr w)
  rw [coefAt_append, coef_neg] at h1
  have h2 := cf_one w hw
  unfold cf at h2 ⊢
  show coefAt (bstr w) x = oneF w - coefAt (bstr w) (restT x)
  omega
theorem cf_pow (x : List Tm) (k : Nat) : Eq4 (cf (powS x (k + 1))) (conv (cf (powS x k)) (cf (restT x))) := cf_pairs _ _
/-- Powers go both ways. -/
theorem pow_left (x : List Tm) : ∀ k, Eq4 (conv (cf (restT x)) (cf (powS x k))) (cf (powS x (k + 1)))
  | 0 => by
    have h0 : Eq4 (cf (powS x 0)) oneF := cf_one
    refine Eq4.trans ((Eq4.refl _).mul h0) ((eq4_one2 _).trans ?_)
    exact ((cf_pow x 0).trans ((h0.mul (Eq4.refl _)).trans (eq4_one1 _))).symm
  | k + 1 => by
    refine Eq4.trans ((Eq4.refl _).mul (cf_pow x k)) ?_
    refine Eq4.trans (eq4_assoc _ _ _).symm ?_
    exact Eq4.trans ((pow_left x k).mul (Eq4.refl _)) (cf_pow x (k + 1)).symm
theorem conv_sub2 : ∀ (w : List UInt8) (f g g' : Fs), conv f (fun l => g l - g' l) w = conv f g w - conv f g' w
  | [], f, g, g' => by rw [conv, conv, conv, Int.mul_sub]
  | c :: r, f, g, g' => by rw [conv, conv, conv, conv_sub2 r, Int.mul_sub]; omega
theorem cf_out (x : List Tm) (k : Nat) : cf (outL x (k + 1)) = fun l => cf (outL x k) l + cf (powS x k) l := by rw [outL_succ, cf_append]
theorem out_right {x : List Tm} (hh : headB x = true) : ∀ k, Eq4 (conv (cf (outL x k)) (cf x)) (fun l => oneF l - cf (powS x k) l)
  | 0 => fun w hw => by
    have h0 : cf (powS x 0) w = oneF w := cf_one w hw
    have e : cf (outL x 0) = fun _ => 0 := by funext l; rfl
    rw [e, conv_zero1]
    show 0 = oneF w - cf (powS x 0) w
    rw [h0]; omega
  | k + 1 => fun w hw => by
    have h1 := out_right hh k w hw
    have h2 : conv (cf (powS x k)) (cf x) w = cf (powS x k) w - cf (powS x (k + 1)) w := by
      rw [((Eq4.refl _).mul (cf_rest hh)) w hw, conv_sub2, conv_one2, cf_pow x k w hw]
    rw [cf_out, conv_add1 w (cf (outL x k)) (cf (powS x k)), h1, h2]
    show oneF w - cf (powS x k) w + (cf (powS x k) w - cf (powS x (k + 1)) w) = oneF w - cf (powS x (k + 1)) w
    omega
theorem out_left {x : List Tm} (hh : headB x = true) : ∀ k, Eq4 (conv (cf x) (cf (outL x k))) (fun l => oneF l - cf (powS x k) l)
  | 0 => fun w hw => by
    have h0 : cf (powS x 0) w = oneF w := cf_one w hw
    have e : cf (outL x 0) = fun _ => 0 := by funext l; rfl
    rw [e, conv_zero2]
    show 0 = oneF w - cf (powS x 0) w
    rw [h0]; omega
  | k + 1 => fun w hw => by
    have h1 := out_left hh k w hw
    have h2 : conv (cf x) (cf (powS x k)) w = cf (powS x k) w - cf (powS x (k + 1)) w := by
      rw [((cf_rest hh).mul (Eq4.refl _)) w hw, conv_sub1 w oneF (cf (restT x)), conv_one1, pow_left x k w hw]
    rw [cf_out, conv_add2 w (cf x) (cf (outL x k)), h1, h2]
    show oneF w - cf (powS x k) w + (cf (powS x k) w - cf (powS x (k + 1)) w) = oneF w - cf (powS x (k + 1)) w
    omega
theorem pow_five_zero {x : List Tm} (hc : Canon x) (hh : headB x = true) (w : List UInt8) : cf (powS x 5) w = 0 := by rw [pow_five hc hh]; rfl
theorem mono_rest {x : List Tm} (hx : MonoT x) : MonoT (restT x) := fun t ht => by
  obtain ⟨u, hu, rfl⟩ := List.mem_map.1 ht
  exact hx u (List.mem_of_mem_drop hu)
theorem mono_pow {x : List Tm} (hx : MonoT x) : ∀ k, MonoT (powS x k)
  | 0 => monoT_one
  | k + 1 => mono_pairs (mono_pow hx k) (mono_rest hx)
theorem mono_out {x : List Tm} (hx : MonoT x) (k : Nat) : MonoT (outL x k) := fun t ht => by
  obtain ⟨j, _, ht⟩ := List.mem_flatMap.1 ht
  exact mono_pow hx j t ht
/-- The told products are 1. -/
theorem turn_right {x : List Tm} (hs : serB x = true) (hh : headB x = true) : canonT (pairsS (canonT (outL x 5)) x) = oneT :=
  ser_eq (canonT_spec _).1 canon_one (mono_pairs (mono_canon (mono_out (mono_ser hs) 5)) (mono_ser hs)) monoT_one (fun w hw => by
    have h1 := cf_pairs (canonT (outL x 5)) x w hw
    have h2 := out_right hh 5 w hw
    have h3 := pow_five_zero (canon_ser hs) hh w
    have h4 := cf_one w hw
    rw [h1, cf_canon (outL x 5), h2, h4]
    show oneF w - cf (powS x 5) w = oneF w
    omega)
theorem turn_left {x : List Tm} (hs : serB x = true) (hh : headB x = true) : canonT (pairsS x (canonT (outL x 5))) = oneT :=
  ser_eq (canonT_spec _).1 canon_one (mono_pairs (mono_ser hs) (mono_canon (mono_out (mono_ser hs) 5))) monoT_one (fun w hw => by
    have h1 := cf_pairs x (canonT (outL x 5)) w hw
    have h2 := out_left hh 5 w hw
    have h3 := pow_five_zero (canon_ser hs) hh w
    have h4 := cf_one w hw
    rw [h1, cf_canon (outL x 5), h2, h4]
    show oneF w - cf (powS x 5) w = oneF w
    omega)
theorem turn_parts {x : List Tm} (h : serTurnB x = true) : serB x = true ∧ headB x = true ∧ serB (canonT (outL x 5)) = true := by
  unfold serTurnB at h
  simp only [Bool.and_eq_true] at h
  exact ⟨h.1, h.2.1, ser_of_tw h.2.2.2⟩

end Go.Proofs.YtdhmicpoigoleabDoor

/- The contracts of SeriesTurned, the answer under a name of its own. -/

namespace Go.Proofs.YtdhmicpoigoleabDoor
open Go.RowKit Go.Shelf

theorem sSeriesTurned_t {W : World} {g n c k : Nat} {x us : List Tm} {b : Bool} (h : TermsIn W (some ⟨g, 0, none⟩) n c x) (hb : serTurnB x = b) (hu : cond b (canonT (outL x 5)) [] = us) (hk : us.length = k) :
    Calls Tryd.prog 6 #[.slice (some ⟨g, 0, none⟩) n c] W (TermsT W b k us) :=
  (sSeriesTurned_law h.is hb).mono fun _ _ h => h.terms (told_smallS (serTurnB_tw hb) hu).1 hu hk
theorem iSeriesTurned_t {W : World} {g n c k : Nat} {x us : List Tm} {b : Bool} (hl : LaidE W) (h : TermsIn W (some ⟨g, 0, none⟩) n c x) (hb : serTurnB x = b) (hu : cond b (canonT (outL x 5)) [] = us) (hk : us.length = k) :
    Calls Tryd.prog 5 #[.slice (some ⟨g, 0, none⟩) n c] W (TermsT W b k us) :=
  (iSeriesTurned_law hl h.is hb).mono fun _ _ h => h.terms (told_smallS (serTurnB_tw hb) hu).1 hu hk

end Go.Proofs.YtdhmicpoigoleabDoor

/- The contract of the program's 'ascends'. -/
import Derived.Test.YtmbffbjopehllaaTf
namespace Go.Proofs.Ytmbffbjopehllaa
open Go.RowKit Go.Shelf

theorem bytes_cmp : ∀ a b : List UInt8, Op.bytesLess a b = decide (Lib.compareBytes a b < 0)
  | [], [] => rfl
  | [], _ :: _ => rfl
  | _ :: _, [] => rfl
  | a :: x, b :: y => by
    unfold Op.bytesLess Lib.compareBytes
    by_cases h : a < b
    · rw [if_pos h]; simp [h]
    · rw [if_neg h]
      by_cases h2 : b < a
      · rw [if_pos h2]
        have : (a == b) = false := by
          apply beq_eq_false_iff_ne.2
          rintro rfl
          exact h h2
        simp [h, this]
      · rw [if_neg h2]
        have : a = b := by
          apply UInt8.toNat_inj.1
          rw [UInt8.lt_iff_toNat_lt] at h h2
          omega
        subst this
        simp [h, bytes_cmp x y]
theorem lessW_cmp (a b : ByteArray) : lessW a b = decide (cmpW a b < 0) := by
  unfold lessW cmpW orInt Lib.compareInt
  by_cases h : a.size = b.size
  · have e1 : ¬ ((a.size : Int) < (b.size : Int)) := by omega
    have e2 : ¬ ((a.size : Int) > (b.size : Int)) := by omega
    rw [if_pos h]
    simp only [if_neg e1, if_neg e2, if_true]
    rw [← bytes_cmp, ByteArray.toList_eq, ByteArray.toList_eq]
  · rw [if_neg h]
    by_cases h2 : a.size < b.size
    · have e1 : ((a.size : Int) < (b.size : Int)) := by omega
      simp only [if_pos e1]; simp [h2]
    · have e1 : ¬ ((a.size : Int) < (b.size : Int)) := by omega
      have e2 : ((a.size : Int) > (b.size : Int)) := by omega
      simp only [if_neg e1, if_pos e2]; simp [h2]

theorem ascB_false {ts : List Tm} {k : Nat} (hk : k < ts.length) (hk0 : 0 < k) (h : lessW (ts.getD (k - 1) default).s (ts.getD k default).s = false) : ascB ts = false := by
  unfold ascB
  refine List.all_eq_false.2 ⟨k, List.mem_range.2 hk, ?_⟩
  have h0 : decide (k = 0) = false := decide_eq_false (by omega)
  rw [h, h0]; decide
theorem ascB_true {ts : List Tm} (h : ∀ k, k < ts.length → 0 < k → lessW (ts.getD (k - 1) default).s (ts.getD k default).s = true) : ascB ts = true := by
  unfold ascB
  refine List.all_eq_true.2 fun k hk => ?_
  by_cases h0 : k = 0
  · rw [decide_eq_true h0, Bool.true_or]
  · rw [h k (List.mem_range.1 hk) (by omega), Bool.or_true]

set_option maxRecDepth 100000 in
set_option maxHeartbeats 2000000 in
theorem ascends_any (bs : Nat) (a : Option Addr) (cap n : Nat) (ts : List Tm) (w : World) (hs : IsTerms w a n ts) (hb : bs < w.heap.size) (h0 : w.cell? ⟨bs, 0, none⟩ = some (.slice a n cap)) (h1 : w.cell? ⟨bs, 1, none⟩ = some (.func (.func 38) #[] #[])) :
    Calls Try.prog 39 #[.pointer (some ⟨bs, 0, none⟩)] w fun e w' => e = .returned (.bool (ascB ts)) ∧ Below w.heap.size w w' := by
  have hm := hs.max
  have HN := Lib.hid hs.len
  have HS := Lib.hid hs
  have hmx : Try.prog.follows .mixedOrders = true := by kernel_rfl
  clear hs
  unfold maxLen at hm
  go_enter Try.func39, Try.ntmps39
  go_wp2
  go_loopw [3] (fun i wr => ∃ k : Nat, 1 ≤ k ∧ i = .int .i64 k ∧ Hid (∀ j, 0 < j → j < k → j < ts.length → lessW (ts.getD (j - 1) default).s (ts.getD j default).s = true) ∧ Below w.heap.size w wr) (fun i _ => n - (intOf i).toNat)
  case atStart => exact ⟨1, by omega, rfl, Lib.hid (fun j _ _ _ => by omega), Below.refl _ _⟩
  case round =>
    obtain ⟨k, hk, rfl, HG, hB⟩ := hrel
    have r0 : wr.cell? ⟨bs, 0, none⟩ = some (.slice a n cap) := (hB.cell (p := ⟨bs, 0, none⟩) hb).trans h0
    have r1 : wr.cell? ⟨bs, 1, none⟩ = some (.func (.func 38) #[] #[]) := (hB.cell (p := ⟨bs, 1, none⟩) hb).trans h1
    have hbr := Nat.lt_of_lt_of_le hb hB.size
    by_cases hlt : k < n
    · have hkz : k < ts.length := by rw [HN.out]; exact hlt
      obtain ⟨x, rfl, hx⟩ := HS.out.at_ (by omega)
      obtain ⟨j, hj⟩ : ∃ j, k - 1 = j := ⟨_, rfl⟩
      have hjn : j < n := by omega
      have hjz : j < ts.length := by omega
      obtain ⟨t, ht⟩ : ∃ t, ts[k] = t := ⟨_, rfl⟩
      obtain ⟨p, hp⟩ : ∃ p, ts[j] = p := ⟨_, rfl⟩
      have hxw := hx.below hB
      have c := hxw.2 k hkz
      have d := hxw.2 j hjz
      have hbx := hxw.1
      rw [ht, addr_next] at c
      rw [hp, addr_next] at d
      have hwr : IntKind.i64.wrap ((k : Int) - 1) = (j : Int) := by rw [IntWalk.i64_in _ (by omega)]; omega
      have v0 := BelowBy.cell (w := wr) (a := ⟨bs, 0, none⟩) hbr r0
      have v1 := BelowBy.cell (w := wr) (a := ⟨bs, 1, none⟩) hbr r1
      have v2 := BelowBy.cell (w := wr) (by rw [addr_add_block]; exact hbx) c.1
      have v3 := BelowBy.cell (w := wr) (by show (x.add (k * 2)).block < _; rw [addr_add_block]; exact hbx) c.2
      have v4 := BelowBy.cell (w := wr) (by rw [addr_add_block]; exact hbx) d.1
      have v5 := BelowBy.cell (w := wr) (by show (x.add (j * 2)).block < _; rw [addr_add_block]; exact hbx) d.2
      have HT : Hid (ts.getD k default = t) := Lib.hid (by rw [List.getD_eq_getElem?_getD, List.getElem?_eq_getElem hkz, ht]; rfl)
      have HP : Hid (ts.getD (k - 1) default = p) := Lib.hid (by rw [hj, List.getD_eq_getElem?_getD, List.getElem?_eq_getElem hjz, hp]; rfl)
      obtain ⟨v, hv⟩ : ∃ v, cmpW p.s t.s = v := ⟨_, rfl⟩
      have HC : Hid (∀ W : World, Calls Try.prog 38 #[.agg #[.int .i64 p.c, .string p.s], .agg #[.int .i64 t.c, .string t.s]] W fun e w' => e = .returned (.int .i64 v) ∧ Below W.heap.size W w') := Lib.hid (fun W => by
        rw [← hv]
        exact (compareTerms_any p t W).mono fun _ _ ⟨h1, h2⟩ => ⟨h1, h2.below⟩)
      have HL : Hid (lessW p.s t.s = decide (v < 0)) := Lib.hid (by rw [lessW_cmp, hv])
      clear hj ht hp c d hx hxw hbx hv
      by_cases hneg : v < 0
      · have hd : decide (0 ≤ v) = false := by simp; omega
        have HNg := Lib.hid hneg
        clear hneg
        go_wp2
        refine wp_region_below hmx (by kernel_rfl) ?_
        repeat (((with_reducible refine wpQuiet_step (fun K hK => ?_)); go_simp; first | ((with_reducible refine hK _ ?_); clear hK K) | (refine (if_neg (by decide)).mpr ?_; (with_reducible refine hK _ ?_); clear hK K) | (apply Exists.intro; (with_reducible refine ⟨fun _ => ?_, hK _ ?_⟩); (go_at_call 38; exact Calls.bel (HC.out _)); clear hK K)))
        with_reducible refine wpQuiet_nil ?_
        rintro W ⟨⟨_, hW⟩, rfl⟩
        clear v0 v1 v2 v3 v4 v5 hwr
        go_wp2
        go_roundw
        case rel =>
          refine ⟨k + 1, by omega, by go_num, Lib.hid ?_, hB.trans (hW.mono hB.size)⟩
          intro i hi hik hiz
          by_cases e : i = k
          · subst e; rw [HT.out, HP.out, HL.out]; exact decide_eq_true HNg.out
          · exact HG.out i hi (by omega) hiz
        case measure => simp [intOf]; omega
      · have hd : decide (0 ≤ v) = true := by simp; omega
        have HNg := Lib.hid hneg
        clear hneg
        go_wp2
        refine wp_region_below hmx (by kernel_rfl) ?_
        repeat (((with_reducible refine wpQuiet_step (fun K hK => ?_)); go_simp; first | ((with_reducible refine hK _ ?_); clear hK K) | (refine (if_neg (by decide)).mpr ?_; (with_reducible refine hK _ ?_); clear hK K) | (apply Exists.intro; (with_reducible refine ⟨fun _ => ?_, hK _ ?_⟩); (go_at_call 38; exact Calls.bel (HC.out _)); clear hK K)))
        with_reducible refine wpQuiet_nil ?_
        rintro W ⟨⟨_, hW⟩, rfl⟩
        clear v0 v1 v2 v3 v4 v5 hwr
        go_wp2
        go_ret
        exact ⟨ret_bool (ascB_false hkz (by omega) (by rw [HT.out, HP.out, HL.out]; exact decide_eq_false (by have := HNg.out; omega))).symm, hB.trans (hW.mono hB.size)⟩
    · have hnk : n ≤ k := by omega
      go_wp2
      go_ret
      exact ⟨ret_bool (ascB_true fun j hj hj0 => HG.out j hj0 (by have := HN.out; omega) hj).symm, hB⟩

end Go.Proofs.Ytmbffbjopehllaa

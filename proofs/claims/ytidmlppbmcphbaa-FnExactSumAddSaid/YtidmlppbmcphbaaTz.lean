/- The contracts of the laws' 'markTermS' and 'heldTermS'. -/
import Derived.Test.YtidmlppbmcphbaaTy
namespace Go.Proofs.Ytidmlppbmcphbaa
open Go.RowKit Go.Shelf

def markT (k i : Nat) : Tm := ⟨((k + 2 * i : Nat) : Int), mkS (k + 2 * i + 1)⟩
/-- The marks from k on. -/
def marksT (k n : Nat) : List Tm := (List.range n).map (markT k)
theorem marksT_len (k n : Nat) : (marksT k n).length = n := by simp [marksT]
theorem marksT_get (k n i : Nat) (h : i < (marksT k n).length) : (marksT k n)[i] = markT k i := by simp [marksT]
theorem marksT_set (k j n : Nat) (us : List Tm) (hl : us.length = n) (hj : j < n) : (marksT k j ++ us.drop j).set j (markT k j) = marksT k (j + 1) ++ us.drop (j + 1) := by
  rw [List.set_append_right _ _ (by rw [marksT_len]; exact Nat.le_refl _), marksT_len, Nat.sub_self, List.drop_eq_getElem_cons (by omega : j < us.length), List.set_cons_zero]
  unfold marksT
  rw [List.range_succ, List.map_append, List.append_assoc]
  rfl

theorem ownsRow_past {w w' : World} {base : Nat} {e : TypeId} {size : Nat} {v : Value} {n : Nat} {xs : List Value} (h : w.ownsRow base e size v n xs) (hb : Below w.heap.size w w') : w'.ownsRow base e size v n xs :=
  h.kept ⟨hb.os, hb.tape, hb.output, hb.size, fun j hj _ => hb.block j hj⟩ (row := none) (by
    rcases h.2 with ⟨rfl, _⟩ | ⟨g, cap, cur, rfl, _⟩
    · exact .inl rfl
    · exact .inr (by simp [Value.ownBlock]))
theorem marksT_row (k j n : Nat) (us : List Tm) (hl : us.length = n) (hj : j < n) :
    ((termsV (marksT k j ++ us.drop j)).set (j * 2) (.int .i64 ((k + 2 * j : Nat) : Int))).set (j * 2 + 1) (.string (mkS (k + 2 * j + 1))) = termsV (marksT k (j + 1) ++ us.drop (j + 1)) := by
  rw [← marksT_set k j n us hl hj]
  exact set_terms _ j (markT k j) (by rw [List.length_append, marksT_len, List.length_drop]; omega)

theorem grown_trans {a b c : World} {row : Option Nat} (h : a.grownBy b row) (k : b.grownBy c row) : a.grownBy c row :=
  ⟨k.os.trans h.os, k.tape.trans h.tape, k.output.trans h.output, Nat.le_trans h.size k.size, fun i hi hne => (k.block i (Nat.lt_of_lt_of_le hi h.size) hne).trans (h.block i hi hne)⟩
theorem grown_refl (a : World) (row : Option Nat) : a.grownBy a row := ⟨rfl, rfl, rfl, Nat.le_refl _, fun _ _ _ => rfl⟩
theorem grown_below {a b : World} (row : Option Nat) (h : Below a.heap.size a b) : a.grownBy b row := ⟨h.os, h.tape, h.output, h.size, fun i hi _ => h.block i hi⟩
theorem mkB_size : ∀ (m : Nat) (t : ByteArray), (mkB m t).size ≤ t.size + m := by
  intro m
  induction m using Nat.strongRecOn with
  | _ m ih =>
    intro t
    by_cases h : m = 0
    · subst h; rw [mkB_zero]; exact Nat.le_refl _
    · rw [← mkB_step h]
      have h1 := ih (m / 10) (by omega) (⟨#[UInt8.ofNat (48 + m % 10)]⟩ ++ t)
      have h2 : ((⟨#[UInt8.ofNat (48 + m % 10)]⟩ : ByteArray) ++ t).size = 1 + t.size := by simp [ByteArray.size_append]; rfl
      omega
theorem mkS_size (k : Nat) : (mkS k).size ≤ k + 1 := by
  have h := mkB_size k ⟨#[]⟩
  have h0 : (⟨#[]⟩ : ByteArray).size = 0 := rfl
  have h1 : (mkS k).size = 1 + (mkB k ⟨#[]⟩).size := by unfold mkS; simp [ByteArray.size_append]; rfl
  omega
theorem marksT_small (k n : Nat) (hk : k ≤ 1000000) (hn : n ≤ 1048576) : SmallT (marksT k n) :=
  ⟨by rw [marksT_len]; unfold maxLen; omega, fun t ht => by
    unfold marksT at ht
    obtain ⟨i, hi, rfl⟩ := List.mem_map.1 ht
    have hi := List.mem_range.1 hi
    have := mkS_size (k + 2 * i + 1)
    unfold markT maxLen
    dsimp only
    omega⟩

set_option maxRecDepth 100000 in
set_option maxHeartbeats 2000000 in
theorem markTermS_any (base k : Nat) (v : Value) (us : List Tm) (w : World) (h : OwnT base w v us) (hn : us.length ≤ 1048576) (hk0 : 0 < k) (hk : k ≤ 10000000) :
    Calls Try.prog 22 #[v, .int .i64 k] w fun e w' => e = .returned (.int .i64 ((k + 2 * us.length : Nat) : Int)) ∧ OwnT base w' v (marksT k us.length) ∧ w.grownBy w' v.ownBlock := by
  obtain ⟨a, cap, rfl⟩ : ∃ a cap, v = .slice a us.length cap := by
    rcases h.2 with ⟨rfl, h0⟩ | ⟨g, cap, cur, rfl, _⟩
    · exact ⟨none, 0, by rw [h0]⟩
    · exact ⟨_, _, rfl⟩
  obtain ⟨n, hl⟩ : ∃ n, us.length = n := ⟨_, rfl⟩
  unfold OwnT at h ⊢
  rw [hl] at h hn ⊢
  rw [marksT_len]
  have HH := Lib.hid h
  have HL := Lib.hid hl
  clear h hl
  go_enter Try.func22, Try.ntmps22
  go_wp2
  go_loopw [1, 5] (fun q i wr => ∃ j : Nat, j ≤ n ∧ q = .int .i64 ((k + 2 * j : Nat) : Int) ∧ i = .int .i64 j ∧ Hid (wr.ownsRow base TI 2 (.slice a n cap) n (termsV (marksT k j ++ us.drop j))) ∧ Hid (w.grownBy wr (Value.slice a n cap).ownBlock)) (fun _ i _ => n - (intOf i).toNat)
  case atStart => exact ⟨0, Nat.zero_le _, rfl, rfl, Lib.hid (by simpa [marksT] using HH.out), Lib.hid (grown_refl _ _)⟩
  case round =>
    obtain ⟨j, hj, rfl, rfl, HR, HB⟩ := hrel
    by_cases hlt : j < n
    · obtain ⟨g, rfl, hg⟩ : ∃ g, a = some ⟨g, 0, none⟩ ∧ base ≤ g := by
        rcases HR.out.2 with ⟨_, e1⟩ | ⟨g, cap1, cur, e0, hg, _⟩
        · omega
        · simp only [Value.slice.injEq] at e0; exact ⟨g, e0.1, hg⟩
      have hxl : (termsV (marksT k j ++ us.drop j)).length = n * 2 := by rw [termsV_len, List.length_append, marksT_len, List.length_drop, HL.out]; omega
      have hd0 : ∃ u, wr.cell? ⟨g, j * 2, none⟩ = some u := by rw [HR.out.cellAt _ (by omega)]; exact ⟨_, List.getElem?_eq_getElem (by omega)⟩
      obtain ⟨u0, hu0⟩ := hd0
      have hf0 := HR.out.frozenAt (j * 2)
      obtain ⟨m, hm⟩ : ∃ m, k + 2 * j = m := ⟨_, rfl⟩
      have hm1 : m ≤ 20000000 := by omega
      rw [hm]
      have hst := (HR.out.stored (j * 2) (.int .i64 (m : Int))).1
      have hbw := (HR.out.stored (j * 2) (.int .i64 (m : Int))).2
      have HM := Lib.hid hm
      have HST := Lib.hid hst
      have HBW := Lib.hid (grown_trans HB.out hbw)
      clear hm hst hbw hxl
      go_wp2_with fail
      refine (show Calls Try.prog 64 #[.int .i64 ((m : Int) + 1)] _ _ from markText_any (m + 1) _ (by omega) (by omega)).mono ?_
      rintro e w4 ⟨rfl, hb4⟩
      have hr4 := ownsRow_past HST.out hb4
      have hxl4 := hr4.1
      have hd1 : ∃ u, w4.cell? ⟨g, j * 2 + 1, none⟩ = some u := by rw [hr4.cellAt _ (by omega)]; exact ⟨_, List.getElem?_eq_getElem (by omega)⟩
      obtain ⟨u1, hu1⟩ := hd1
      have hf1 := hr4.frozenAt (j * 2 + 1)
      have HR4 := Lib.hid hr4
      have HB4 := Lib.hid (grown_trans HBW.out (grown_below _ hb4))
      clear hr4 hb4 hxl4
      go_wp2
      go_roundw
      case rel =>
        refine ⟨j + 1, by omega, by have := HM.out; go_num, by go_num, Lib.hid ?_, Lib.hid (grown_trans HB4.out (HR4.out.stored (j * 2 + 1) (.string (mkS (m + 1)))).2)⟩
        rw [← marksT_row k j n us HL.out hlt, HM.out]
        exact (HR4.out.stored (j * 2 + 1) (.string (mkS (m + 1)))).1
      case measure => simp [intOf]; omega
    · obtain rfl : j = n := by omega
      go_wp2
      go_ret
      refine ⟨rfl, ?_, HB.out⟩
      have := HR.out
      rw [List.drop_of_length_le (by rw [HL.out]; exact Nat.le_refl _), List.append_nil] at this
      exact this

/-! ### Texts -/
def marksS (k n : Nat) : List ByteArray := (List.range n).map fun i => mkS (k + i)
theorem marksS_len (k n : Nat) : (marksS k n).length = n := by simp [marksS]
theorem marksS_set (k j n : Nat) (us : List ByteArray) (hl : us.length = n) (hj : j < n) : (strsV (marksS k j ++ us.drop j)).set j (.string (mkS (k + j))) = strsV (marksS k (j + 1) ++ us.drop (j + 1)) := by
  have h1 : (marksS k j ++ us.drop j).set j (mkS (k + j)) = marksS k (j + 1) ++ us.drop (j + 1) := by
    rw [List.set_append_right _ _ (by rw [marksS_len]; exact Nat.le_refl _), marksS_len, Nat.sub_self, List.drop_eq_getElem_cons (by omega : j < us.length), List.set_cons_zero]
    unfold marksS
    rw [List.range_succ, List.map_append, List.append_assoc]
    rfl
  rw [← h1]
  unfold strsV
  rw [List.map_set]
def OwnS (base : Nat) (w : World) (v : Value) (zs : List ByteArray) : Prop := w.ownsRow base 9 1 v zs.length (strsV zs)
theorem OwnS.below {base : Nat} {w w' : World} {v : Value} {zs : List ByteArray} (h : OwnS base w v zs) (hb : Below w.heap.size w w') : OwnS base w' v zs := ownsRow_past h hb

set_option maxRecDepth 100000 in
set_option maxHeartbeats 2000000 in
theorem markStringS_any (base k : Nat) (v : Value) (us : List ByteArray) (w : World) (h : OwnS base w v us) (hn : us.length ≤ 1048576) (hk0 : 0 < k) (hk : k ≤ 10000000) :
    Calls Try.prog 37 #[v, .int .i64 k] w fun e w' => e = .returned (.int .i64 ((k + us.length : Nat) : Int)) ∧ OwnS base w' v (marksS k us.length) ∧ w.grownBy w' v.ownBlock := by
  obtain ⟨a, cap, rfl⟩ : ∃ a cap, v = .slice a us.length cap := by
    rcases h.2 with ⟨rfl, h0⟩ | ⟨g, cap, cur, rfl, _⟩
    · exact ⟨none, 0, by rw [h0]⟩
    · exact ⟨_, _, rfl⟩
  obtain ⟨n, hl⟩ : ∃ n, us.length = n := ⟨_, rfl⟩
  unfold OwnS at h ⊢
  rw [hl] at h hn ⊢
  rw [marksS_len]
  have HH := Lib.hid h
  have HL := Lib.hid hl
  clear h hl
  go_enter Try.func37, Try.ntmps37
  go_wp2
  go_loopw [1, 5] (fun q i wr => ∃ j : Nat, j ≤ n ∧ q = .int .i64 ((k + j : Nat) : Int) ∧ i = .int .i64 j ∧ Hid (wr.ownsRow base 9 1 (.slice a n cap) n (strsV (marksS k j ++ us.drop j))) ∧ Hid (w.grownBy wr (Value.slice a n cap).ownBlock)) (fun _ i _ => n - (intOf i).toNat)
  case atStart => exact ⟨0, Nat.zero_le _, rfl, rfl, Lib.hid (by simpa [marksS] using HH.out), Lib.hid (grown_refl _ _)⟩
  case round =>
    obtain ⟨j, hj, rfl, rfl, HR, HB⟩ := hrel
    by_cases hlt : j < n
    · obtain ⟨g, rfl, hg⟩ : ∃ g, a = some ⟨g, 0, none⟩ ∧ base ≤ g := by
        rcases HR.out.2 with ⟨_, e1⟩ | ⟨g, cap1, cur, e0, hg, _⟩
        · omega
        · simp only [Value.slice.injEq] at e0; exact ⟨g, e0.1, hg⟩
      obtain ⟨m, hm⟩ : ∃ m, k + j = m := ⟨_, rfl⟩
      have hm1 : m ≤ 20000000 := by omega
      have hm0 : 0 < m := by omega
      rw [hm]
      have HM := Lib.hid hm
      clear hm
      go_wp2_with fail
      refine (markText_any m _ (by omega) (by omega)).mono ?_
      rintro e w4 ⟨rfl, hb4⟩
      have hr4 := ownsRow_past HR.out hb4
      have hxl : (strsV (marksS k j ++ us.drop j)).length = n := by rw [strsV_len, List.length_append, marksS_len, List.length_drop, HL.out]; omega
      have hd1 : ∃ u, w4.cell? ⟨g, j, none⟩ = some u := by rw [hr4.cellAt _ (by omega)]; exact ⟨_, List.getElem?_eq_getElem (by omega)⟩
      obtain ⟨u1, hu1⟩ := hd1
      have hf1 := hr4.frozenAt j
      have HR4 := Lib.hid hr4
      have HB4 := Lib.hid (grown_trans HB.out (grown_below _ hb4))
      clear hr4 hb4 hxl
      go_wp2
      go_roundw
      case rel =>
        refine ⟨j + 1, by omega, by have := HM.out; go_num, by go_num, Lib.hid ?_, Lib.hid (grown_trans HB4.out (HR4.out.stored j (.string (mkS m))).2)⟩
        rw [← marksS_set k j n us HL.out hlt, HM.out]
        exact (HR4.out.stored j (.string (mkS m))).1
      case measure => simp [intOf]; omega
    · obtain rfl : j = n := by omega
      go_wp2
      go_ret
      refine ⟨rfl, ?_, HB.out⟩
      have := HR.out
      rw [List.drop_of_length_le (by rw [HL.out]; exact Nat.le_refl _), List.append_nil] at this
      exact this

set_option maxRecDepth 100000 in
set_option maxHeartbeats 2000000 in
theorem heldTermS_any (k : Nat) (a : Option Addr) (cap n : Nat) (w : World) (hs : IsTerms w a n (marksT k n)) (hn : n ≤ 1048576) (hk0 : 0 < k) (hk : k ≤ 1000000) :
    Calls Try.prog 23 #[.slice a n cap, .int .i64 k] w fun e w' => e = .returned (.int .i64 ((k + 2 * n : Nat) : Int)) ∧ Below w.heap.size w w' := by
  have HS := Lib.hid hs
  have hmx : Try.prog.follows .mixedOrders = true := by kernel_rfl
  clear hs
  go_enter Try.func23, Try.ntmps23
  go_wp2
  go_loopw [1, 5] (fun q i wr => ∃ j : Nat, j ≤ n ∧ q = .int .i64 ((k + 2 * j : Nat) : Int) ∧ i = .int .i64 j ∧ Below w.heap.size w wr) (fun _ i _ => n - (intOf i).toNat)
  case atStart => exact ⟨0, Nat.zero_le _, rfl, rfl, Below.refl _ _⟩
  case round =>
    obtain ⟨j, hj, rfl, rfl, hB⟩ := hrel
    by_cases hlt : j < n
    · obtain ⟨x, rfl, hx⟩ := HS.out.at_ (by omega)
      have hxw := hx.below hB
      have hc := hxw.2 j (by rw [marksT_len]; exact hlt)
      rw [marksT_get, addr_next] at hc
      obtain ⟨m, hm⟩ : ∃ m, k + 2 * j = m := ⟨_, rfl⟩
      have hm1 : m ≤ 4000000 := by omega
      unfold markT at hc
      rw [hm] at hc ⊢
      obtain ⟨c0, c1⟩ := hc
      dsimp only at c0 c1
      have hbx := hxw.1
      have v1 := BelowBy.cell (w := wr) (by show (x.add (j * 2)).block < _; rw [addr_add_block]; exact hbx) c1
      have HT : Hid (∀ W : World, Calls Try.prog 64 #[.int .i64 ((m : Int) + 1)] W fun e w' => e = .returned (.string (mkS (m + 1))) ∧ Below W.heap.size W w') :=
        Lib.hid fun W => markText_any (m + 1) W (by omega) (by omega)
      have HM := Lib.hid hm
      clear hm hx hxw c1
      go_wp2
      refine wp_region_below hmx (by kernel_rfl) ?_
      repeat (((with_reducible refine wpQuiet_step (fun K hK => ?_)); go_simp; first | ((with_reducible refine hK _ ?_); clear hK K) | (refine (if_neg (by decide)).mpr ?_; (with_reducible refine hK _ ?_); clear hK K) | (apply Exists.intro; (with_reducible refine ⟨fun _ => ?_, hK _ ?_⟩); (go_at_call 64; exact Calls.bel (HT.out _)); clear hK K)))
      with_reducible refine wpQuiet_nil ?_
      rintro W ⟨⟨W, hW⟩, rfl⟩
      clear v1
      have hBW : Below w.heap.size w W := hB.trans (hW.mono hB.size)
      change Exit.then _ _ _ _ W
      go_wp2
      go_roundw
      case rel => exact ⟨j + 1, by omega, by have := HM.out; go_num, by go_num, hBW⟩
      case measure => simp [intOf]; omega
    · obtain rfl : j = n := by omega
      go_wp2
      go_ret
      exact ⟨rfl, hB⟩

end Go.Proofs.Ytidmlppbmcphbaa

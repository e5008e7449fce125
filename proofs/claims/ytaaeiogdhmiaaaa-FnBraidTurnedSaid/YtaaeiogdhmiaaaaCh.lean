/- The contracts of BraidTimes and BraidGrow, the model's and the program's, of the model's BraidTurned and of the program's 'told'. -/
import Derived.Test.YtaaeiogdhmiaaaaCc
import Derived.Test.YtaaeiogdhmiaaaaCd
import Derived.Test.YtaaeiogdhmiaaaaSd
namespace Go.Proofs.Ytaaeiogdhmiaaaa
open Go.RowKit

theorem boxOf2 {W w1 : World} {k : Nat} {x y : Value} {t : TypeId} (hk : W.heap[k]? = some (.cells #[x, y] t (0, 0))) (hb : Below W.heap.size W w1) :
    (w1.cell? ⟨k, 0, none⟩ = some x ∧ w1.cell? ⟨k, 1, none⟩ = some y) ∧ w1.frozen? ⟨k, 0, none⟩ = false ∧ w1.frozen? ⟨k, 1, none⟩ = false := by
  have e := (hb.block k (Array.getElem?_eq_some_iff.1 hk).1).trans hk
  refine ⟨⟨?_, ?_⟩, ?_, ?_⟩ <;> simp [World.cell?, World.frozen?, e]

theorem iBraidIn_any (n : Int) (s : ByteArray) (b : Bool) (w : World) (hm : s.size ≤ maxLen) (hb : braidB n s = b) :
    Calls Try.prog 25 #[brV n s] w fun e w' => e = .returned (.bool b) ∧ Below w.heap.size w w' := by
  unfold maxLen at hm
  by_cases h1 : 2 ≤ n ∧ n ≤ 4
  · by_cases h2 : s.size ≤ 30
    · have e : braidB n s = brP n s.data.toList := by unfold braidB brP; rw [decide_eq_true h1, decide_eq_true h2]; rfl
      rw [← hb, e]
      exact (callsIn_wide (n := 30)).1 (braidIn_in 30 (by omega) n s w h1.1 h1.2 h2)
    · obtain rfl := (braidB_no2 h2 (n := n)).symm.trans hb
      clear hb
      obtain ⟨h1a, h1b⟩ := h1
      have hB : Below w.heap.size w (((w.alloc (.cells #[.int .i64 n, .string s] 26)).alloc (.cells #[.bool false] 4))) := ((Below.refl _ w).alloc (Nat.le_refl _) _).alloc (by simp) _
      have HB := Lib.hid hB
      clear hB
      refine (callsIn_wide (n := 30)).1 ?_
      refine callsIn_of_wp_marks Try.func25 rfl trivial ?_ rfl
      simp only [Try.ntmps25, List.size_toArray, List.length_cons, List.length_nil, Nat.reduceAdd, Nat.reduceSub, Array.replicate_succ, Array.replicate_zero, List.push_toArray, List.append_toArray, List.nil_append, List.cons_append]
      gi_wp2
      have b1 := (Boxed.new (w.alloc (.cells #[.int .i64 n, .string s] 26)) 4 (.bool false)).cell
      rw [World.size_alloc] at b1
      exact ⟨.bool false, by simp [results, Try.f25, go_sem, b1], rfl, HB.out⟩
  · obtain rfl := (braidB_no1 h1 (s := s)).symm.trans hb
    clear hb
    have hB : Below w.heap.size w (((w.alloc (.cells #[.int .i64 n, .string s] 26)).alloc (.cells #[.bool false] 4))) := ((Below.refl _ w).alloc (Nat.le_refl _) _).alloc (by simp) _
    have HB := Lib.hid hB
    clear hB
    have b1 := Lib.hid (Boxed.new (w.alloc (.cells #[.int .i64 n, .string s] 26)) 4 (.bool false)).cell
    rw [World.size_alloc] at b1
    refine (callsIn_wide (n := 30)).1 ?_
    refine callsIn_of_wp_marks Try.func25 rfl trivial ?_ rfl
    simp only [Try.ntmps25, List.size_toArray, List.length_cons, List.length_nil, Nat.reduceAdd, Nat.reduceSub, Array.replicate_succ, Array.replicate_zero, List.push_toArray, List.append_toArray, List.nil_append, List.cons_append]
    by_cases hlo : n < 2
    · have hd : decide (n < 2) = true := decide_eq_true hlo
      gi_wp2
      exact ⟨.bool false, by simp [results, Try.f25, go_sem, b1.out], rfl, HB.out⟩
    · have hhi : 4 < n := by omega
      have hd : decide (n < 2) = false := decide_eq_false hlo
      have hd2 : decide (4 < n) = true := decide_eq_true hhi
      gi_wp2
      exact ⟨.bool false, by simp [results, Try.f25, go_sem, b1.out], rfl, HB.out⟩

/-- A braid as an answer, and whether it is told. -/
def brR (b : Bool) (n : Int) (s : ByteArray) : Value := .tuple #[if b then brV n s else brV 0 { data := #[] }, .bool b]

theorem brR_no (n : Int) (s : ByteArray) : brR false n s = .tuple #[brV 0 { data := #[] }, .bool false] := rfl
theorem brR_yes (n : Int) (s : ByteArray) : brR true n s = .tuple #[brV n s, .bool true] := rfl

theorem brR_shape (b : Bool) (n : Int) (s : ByteArray) : ∃ m t, brR b n s = .tuple #[brV m t, .bool b] := by
  cases b with
  | true => exact ⟨n, s, rfl⟩
  | false => exact ⟨0, { data := #[] }, rfl⟩

def timesB (nA : Int) (sA : ByteArray) (nB : Int) (sB : ByteArray) : Bool := braidB nA sA && (braidB nB sB && (decide (nA = nB) && decide (sA.size + sB.size ≤ 30)))

theorem oneBox {w W : World} {n : Int} {s : ByteArray} {t : TypeId} (hW : w.alloc (.cells #[.int .i64 n, .string s] t) = W) :
    Below w.heap.size w W ∧ W.heap.size = w.heap.size + 1 ∧ W.heap[w.heap.size]? = some (.cells #[.int .i64 n, .string s] t (0, 0)) := by
  subst hW
  exact ⟨(Below.refl _ w).alloc (Nat.le_refl _) _, by simp, World.alloc_heap_new w _⟩

/-- The boxes of two braids and of an answer. -/
theorem threeBox {w W : World} {nA nB : Int} {sA sB : ByteArray} {t : TypeId} (hW : ((w.alloc (.cells #[.int .i64 nA, .string sA] t)).alloc (.cells #[.int .i64 nB, .string sB] t)).alloc (.cells #[.int .i64 0, .string { data := #[] }] t) = W) :
    Below w.heap.size w W ∧ W.heap.size = w.heap.size + 3 ∧ W.heap[w.heap.size]? = some (.cells #[.int .i64 nA, .string sA] t (0, 0)) ∧ W.heap[w.heap.size + 1]? = some (.cells #[.int .i64 nB, .string sB] t (0, 0)) ∧ W.heap[w.heap.size + 1 + 1]? = some (.cells #[.int .i64 0, .string { data := #[] }] t (0, 0)) := by
  subst hW
  refine ⟨(((Below.refl _ w).alloc (Nat.le_refl _) _).alloc (by simp) _).alloc (by simp; omega) _, by simp, ?_, ?_, ?_⟩
  · rw [Below.heap_alloc _ _ _ (by simp; omega), Below.heap_alloc _ _ _ (by simp)]; exact World.alloc_heap_new w _
  · rw [Below.heap_alloc _ _ _ (by simp)]
    have h := World.alloc_heap_new (w.alloc (.cells #[.int .i64 nA, .string sA] t)) (.cells #[.int .i64 nB, .string sB] t)
    rw [World.size_alloc] at h; exact h
  · have h := World.alloc_heap_new ((w.alloc (.cells #[.int .i64 nA, .string sA] t)).alloc (.cells #[.int .i64 nB, .string sB] t)) (.cells #[.int .i64 0, .string { data := #[] }] t)
    rw [World.size_alloc, World.size_alloc] at h; exact h
/-- The boxes of a braid and of an answer. -/
theorem twoBox {w W : World} {n : Int} {s : ByteArray} {t : TypeId} (hW : (w.alloc (.cells #[.int .i64 n, .string s] t)).alloc (.cells #[.int .i64 0, .string { data := #[] }] t) = W) :
    Below w.heap.size w W ∧ W.heap.size = w.heap.size + 2 ∧ W.heap[w.heap.size]? = some (.cells #[.int .i64 n, .string s] t (0, 0)) ∧ W.heap[w.heap.size + 1]? = some (.cells #[.int .i64 0, .string { data := #[] }] t (0, 0)) := by
  subst hW
  refine ⟨((Below.refl _ w).alloc (Nat.le_refl _) _).alloc (by simp) _, by simp, ?_, ?_⟩
  · rw [Below.heap_alloc _ _ _ (by simp)]; exact World.alloc_heap_new w _
  · have h := World.alloc_heap_new (w.alloc (.cells #[.int .i64 n, .string s] t)) (.cells #[.int .i64 0, .string { data := #[] }] t)
    rw [World.size_alloc] at h; exact h

theorem below_two {w V : World} {k : Nat} (h : Below w.heap.size w V) (hk : w.heap.size ≤ k) (x y : Value) : Below w.heap.size w ((V.setCell ⟨k, 0, none⟩ x).setCell ⟨k, 1, none⟩ y) :=
  (h.setCell (p := ⟨k, 0, none⟩) hk x).setCell (p := ⟨k, 1, none⟩) hk y

set_option maxRecDepth 100000 in
set_option maxHeartbeats 2000000 in
theorem sBraidTimes_any (nA nB : Int) (sA sB : ByteArray) (w : World) (hA : sA.size ≤ maxLen) (hB : sB.size ≤ maxLen) :
    Calls Try.prog 26 #[brV nA sA, brV nB sB] w fun e w' => e = .returned (brR (timesB nA sA nB sB) nA (sA ++ sB)) ∧ Below w.heap.size w w' := by
  obtain ⟨W, hW⟩ : ∃ W, ((w.alloc (.cells #[.int .i64 nA, .string sA] 26)).alloc (.cells #[.int .i64 nB, .string sB] 26)).alloc (.cells #[.int .i64 0, .string { data := #[] }] 26) = W := ⟨_, rfl⟩
  have HX := Lib.hid (threeBox hW)
  have HW := Lib.hid hW
  clear hW
  have hsz := HX.out.2.1
  obtain ⟨bA, hbA⟩ : ∃ b, braidB nA sA = b := ⟨_, rfl⟩
  obtain ⟨bB, hbB⟩ : ∃ b, braidB nB sB = b := ⟨_, rfl⟩
  have HA := Lib.hid (fun w => sBraidIn_any nA sA bA w hA hbA)
  have HB := Lib.hid (fun w => sBraidIn_any nB sB bB w hB hbB)
  have HbA := Lib.hid hbA
  have HbB := Lib.hid hbB
  have HT : Hid (timesB nA sA nB sB = (bA && (bB && (decide (nA = nB) && decide (sA.size + sB.size ≤ 30))))) := Lib.hid (by unfold timesB; rw [hbA, hbB])
  clear hbA hbB
  obtain ⟨⟨c0, c1⟩, _, _⟩ := boxOf2 HX.out.2.2.1 (Below.refl _ W)
  go_enter Try.func26, Try.ntmps26
  go_wp2_with fail
  rw [HW.out]
  refine (HA.out W).mono ?_
  rintro e w1 ⟨rfl, hb1⟩
  clear c0 c1
  obtain ⟨⟨d0, d1⟩, f0, f1⟩ := boxOf2 HX.out.2.2.2.2 hb1
  obtain ⟨⟨c0, c1⟩, _, _⟩ := boxOf2 HX.out.2.2.2.1 hb1
  obtain ⟨⟨a0, a1⟩, _, _⟩ := boxOf2 HX.out.2.2.1 hb1
  have HB1 := Lib.hid hb1
  clear hb1
  cases bA with
  | false =>
    have HBX := Lib.hid (HX.out.1.trans (HB1.out.mono HX.out.1.size))
    go_wp2
    refine bodyPost_ret (v := brR false nA (sA ++ sB)) ?_ rfl ⟨by rw [HT.out]; rfl, below_two (HBX.out) (by omega) _ _⟩
    simp [results, Try.results26, go_sem, d0, d1, brR]

  | true =>
    go_wp2_with fail
    refine (HB.out w1).mono ?_
    rintro e w2 ⟨rfl, hb2⟩
    have HB2 := Lib.hid (HB1.out.trans (hb2.mono HB1.out.size))
    have HBX := Lib.hid (HX.out.1.trans (HB2.out.mono HX.out.1.size))
    clear hb2 d0 d1 f0 f1 c0 c1 a0 a1
    obtain ⟨⟨d0, d1⟩, f0, f1⟩ := boxOf2 HX.out.2.2.2.2 HB2.out
    obtain ⟨⟨c0, c1⟩, _, _⟩ := boxOf2 HX.out.2.2.2.1 HB2.out
    obtain ⟨⟨a0, a1⟩, _, _⟩ := boxOf2 HX.out.2.2.1 HB2.out
    cases bB with
    | false =>
      go_wp2
      refine bodyPost_ret (v := brR false nA (sA ++ sB)) ?_ rfl ⟨by rw [HT.out]; rfl, below_two (HBX.out) (by omega) _ _⟩
      simp [results, Try.results26, go_sem, d0, d1, brR]

    | true =>
      obtain ⟨_, hsA, _⟩ := braid_all HbA.out
      obtain ⟨_, hsB, _⟩ := braid_all HbB.out
      by_cases hn : nA = nB
      · subst hn
        have hne : (nA != nA) = false := by simp
        by_cases hl : sA.size + sB.size ≤ 30
        · have hd : decide ((30 : Int) < (sA.size : Int) + (sB.size : Int)) = false := decide_eq_false (by omega)
          have HF : Hid (timesB nA sA nA sB = true) := Lib.hid (by rw [HT.out, decide_eq_true rfl, decide_eq_true hl]; rfl)
          go_wp2
          refine bodyPost_ret (v := brR true nA (sA ++ sB)) ?_ rfl ⟨by rw [HF.out], below_two (HBX.out) (by omega) _ _⟩
          simp [results, Try.results26, go_sem, d0, d1, brR]

        · have hd : decide ((30 : Int) < (sA.size : Int) + (sB.size : Int)) = true := decide_eq_true (by omega)
          have HF : Hid (timesB nA sA nA sB = false) := Lib.hid (by rw [HT.out, decide_eq_false hl]; simp)
          go_wp2
          refine bodyPost_ret (v := brR false nA (sA ++ sB)) ?_ rfl ⟨by rw [HF.out], below_two (HBX.out) (by omega) _ _⟩
          simp [results, Try.results26, go_sem, d0, d1, brR]

      · have hne : (nA != nB) = true := by simpa using hn
        have HF : Hid (timesB nA sA nB sB = false) := Lib.hid (by rw [HT.out, decide_eq_false hn]; rfl)
        go_wp2
        refine bodyPost_ret (v := brR false nA (sA ++ sB)) ?_ rfl ⟨by rw [HF.out], below_two (HBX.out) (by omega) _ _⟩
        simp [results, Try.results26, go_sem, d0, d1, brR]


theorem braidB_append {nA : Int} {sA sB : ByteArray} (hA : braidB nA sA = true) (hB : braidB nA sB = true) : braidB nA (sA ++ sB) = decide (sA.size + sB.size ≤ 30) := by
  obtain ⟨h1, _, h3⟩ := braid_all hA
  obtain ⟨_, _, h4⟩ := braid_all hB
  by_cases hl : sA.size + sB.size ≤ 30
  · rw [decide_eq_true hl]
    refine braid_of_all h1 (by rw [ByteArray.size_append]; exact hl) fun c hc => ?_
    rw [append_toList] at hc
    rcases List.mem_append.1 hc with h | h
    · exact h3 c h
    · exact h4 c h
  · rw [decide_eq_false hl]
    exact braidB_no2 (by rw [ByteArray.size_append]; exact hl)

set_option maxRecDepth 100000 in
set_option maxHeartbeats 2000000 in
theorem toldB_any (n : Int) (s : ByteArray) (w : World) (hs : s.size ≤ maxLen) :
    Calls Try.prog 72 #[brV n s] w fun e w' => e = .returned (brR (braidB n s) n s) ∧ Below w.heap.size w w' := by
  obtain ⟨W, hW⟩ : ∃ W, (w.alloc (.cells #[.int .i64 n, .string s] 26)).alloc (.cells #[.int .i64 0, .string { data := #[] }] 26) = W := ⟨_, rfl⟩
  have HX := Lib.hid (twoBox hW)
  have HW := Lib.hid hW
  clear hW
  have hsz := HX.out.2.1
  obtain ⟨b, hb⟩ : ∃ b, braidB n s = b := ⟨_, rfl⟩
  have HA := Lib.hid (fun w => iBraidIn_any n s b w hs hb)
  have HB := Lib.hid hb
  clear hb
  obtain ⟨⟨c0, c1⟩, _, _⟩ := boxOf2 HX.out.2.2.1 (Below.refl _ W)
  go_enter Try.func72, Try.ntmps72
  go_wp2_with fail
  rw [HW.out]
  refine (HA.out W).mono ?_
  rintro e w1 ⟨rfl, hb1⟩
  clear c0 c1
  obtain ⟨⟨d0, d1⟩, f0, f1⟩ := boxOf2 HX.out.2.2.2 hb1
  obtain ⟨⟨c0, c1⟩, _, _⟩ := boxOf2 HX.out.2.2.1 hb1
  have HBX := Lib.hid (HX.out.1.trans (hb1.mono HX.out.1.size))
  clear hb1
  cases b with
  | false =>
    go_wp2
    refine bodyPost_ret (v := brR false n s) ?_ rfl ⟨by rw [HB.out], below_two HBX.out (by omega) _ _⟩
    simp [results, Try.results72, go_sem, d0, d1, brR]
  | true =>
    go_wp2
    refine bodyPost_ret (v := brR true n s) ?_ rfl ⟨by rw [HB.out], below_two HBX.out (by omega) _ _⟩
    simp [results, Try.results72, go_sem, d0, d1, brR]

set_option maxRecDepth 100000 in
set_option maxHeartbeats 2000000 in
theorem iBraidTimes_any (nA nB : Int) (sA sB : ByteArray) (w : World) (hA : sA.size ≤ maxLen) (hB : sB.size ≤ maxLen) :
    Calls Try.prog 27 #[brV nA sA, brV nB sB] w fun e w' => e = .returned (brR (timesB nA sA nB sB) nA (sA ++ sB)) ∧ Below w.heap.size w w' := by
  obtain ⟨W, hW⟩ : ∃ W, ((w.alloc (.cells #[.int .i64 nA, .string sA] 26)).alloc (.cells #[.int .i64 nB, .string sB] 26)).alloc (.cells #[.int .i64 0, .string { data := #[] }] 26) = W := ⟨_, rfl⟩
  have HX := Lib.hid (threeBox hW)
  have HW := Lib.hid hW
  clear hW
  have hsz := HX.out.2.1
  obtain ⟨bA, hbA⟩ : ∃ b, braidB nA sA = b := ⟨_, rfl⟩
  obtain ⟨bB, hbB⟩ : ∃ b, braidB nB sB = b := ⟨_, rfl⟩
  have HA := Lib.hid (fun w => iBraidIn_any nA sA bA w hA hbA)
  have HB := Lib.hid (fun w => iBraidIn_any nB sB bB w hB hbB)
  have HbA := Lib.hid hbA
  have HbB := Lib.hid hbB
  have HT : Hid (timesB nA sA nB sB = (bA && (bB && (decide (nA = nB) && decide (sA.size + sB.size ≤ 30))))) := Lib.hid (by unfold timesB; rw [hbA, hbB])
  clear hbA hbB
  obtain ⟨⟨c0, c1⟩, _, _⟩ := boxOf2 HX.out.2.2.1 (Below.refl _ W)
  go_enter Try.func27, Try.ntmps27
  go_wp2_with fail
  rw [HW.out]
  refine (HA.out W).mono ?_
  rintro e w1 ⟨rfl, hb1⟩
  clear c0 c1
  obtain ⟨⟨d0, d1⟩, f0, f1⟩ := boxOf2 HX.out.2.2.2.2 hb1
  obtain ⟨⟨c0, c1⟩, _, _⟩ := boxOf2 HX.out.2.2.2.1 hb1
  obtain ⟨⟨a0, a1⟩, _, _⟩ := boxOf2 HX.out.2.2.1 hb1
  have HB1 := Lib.hid hb1
  clear hb1
  cases bA with
  | false =>
    have HBX := Lib.hid (HX.out.1.trans (HB1.out.mono HX.out.1.size))
    go_wp2
    refine bodyPost_ret (v := brR false nA (sA ++ sB)) ?_ rfl ⟨by rw [HT.out]; rfl, below_two (HBX.out) (by omega) _ _⟩
    simp [results, Try.results27, go_sem, d0, d1, brR]

  | true =>
    go_wp2_with fail
    refine (HB.out w1).mono ?_
    rintro e w2 ⟨rfl, hb2⟩
    have HB2 := Lib.hid (HB1.out.trans (hb2.mono HB1.out.size))
    have HBX := Lib.hid (HX.out.1.trans (HB2.out.mono HX.out.1.size))
    clear hb2 d0 d1 f0 f1 c0 c1 a0 a1
    obtain ⟨⟨d0, d1⟩, f0, f1⟩ := boxOf2 HX.out.2.2.2.2 HB2.out
    obtain ⟨⟨c0, c1⟩, _, _⟩ := boxOf2 HX.out.2.2.2.1 HB2.out
    obtain ⟨⟨a0, a1⟩, _, _⟩ := boxOf2 HX.out.2.2.1 HB2.out
    cases bB with
    | false =>
      go_wp2
      refine bodyPost_ret (v := brR false nA (sA ++ sB)) ?_ rfl ⟨by rw [HT.out]; rfl, below_two (HBX.out) (by omega) _ _⟩
      simp [results, Try.results27, go_sem, d0, d1, brR]

    | true =>
      obtain ⟨_, hsA, _⟩ := braid_all HbA.out
      obtain ⟨_, hsB, _⟩ := braid_all HbB.out
      by_cases hn : nA = nB
      · subst hn
        have hne : (nA != nA) = false := by simp
        have HF : Hid (timesB nA sA nA sB = braidB nA (sA ++ sB)) := Lib.hid (by rw [HT.out, braidB_append HbA.out HbB.out, decide_eq_true rfl]; rfl)
        have hsz2 : (sA ++ sB).size ≤ maxLen := by rw [ByteArray.size_append]; unfold maxLen; omega
        have HTD := Lib.hid (fun w => toldB_any nA (sA ++ sB) w hsz2)
        clear hsz2
        go_wp2_with fail
        refine (HTD.out w2).mono ?_
        rintro e w3 ⟨rfl, hb3⟩
        have HB3 := Lib.hid (HB2.out.trans (hb3.mono HB2.out.size))
        clear HBX
        have HBX := Lib.hid (HX.out.1.trans (HB3.out.mono HX.out.1.size))
        clear hb3 d0 d1 f0 f1
        obtain ⟨⟨d0, d1⟩, f0, f1⟩ := boxOf2 HX.out.2.2.2.2 HB3.out
        cases hb : braidB nA (sA ++ sB) with
        | true =>
          have HV := Lib.hid hb
          rw [brR_yes]
          clear hb
          go_wp2
          refine bodyPost_ret (v := brR true nA (sA ++ sB)) ?_ rfl ⟨by rw [HF.out, HV.out], below_two (HBX.out) (by omega) _ _⟩
          simp [results, Try.results27, go_sem, d0, d1, brR]

        | false =>
          have HV := Lib.hid hb
          rw [brR_no]
          clear hb
          go_wp2
          refine bodyPost_ret (v := brR false nA (sA ++ sB)) ?_ rfl ⟨by rw [HF.out, HV.out], below_two (HBX.out) (by omega) _ _⟩
          simp [results, Try.results27, go_sem, d0, d1, brR]

      · have hne : (nA != nB) = true := by simpa using hn
        have HF : Hid (timesB nA sA nB sB = false) := Lib.hid (by rw [HT.out, decide_eq_false hn]; rfl)
        go_wp2
        refine bodyPost_ret (v := brR false nA (sA ++ sB)) ?_ rfl ⟨by rw [HF.out], below_two (HBX.out) (by omega) _ _⟩
        simp [results, Try.results27, go_sem, d0, d1, brR]


end Go.Proofs.Ytaaeiogdhmiaaaa

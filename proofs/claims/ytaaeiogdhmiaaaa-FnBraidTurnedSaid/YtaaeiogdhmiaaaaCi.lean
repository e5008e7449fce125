/- The contracts of BraidGrow, the model's and the program's, and of the model's BraidTurned. -/
import Derived.Test.YtaaeiogdhmiaaaaCh
import Derived.Test.YtaaeiogdhmiaaaaDz
namespace Go.Proofs.Ytaaeiogdhmiaaaa
open Go.RowKit

def growC (n : Int) (back : Bool) : UInt8 := UInt8.ofNat ((if back then 87 else 119) + n.toNat)
theorem growC_tab : ∀ n ∈ ([2, 3, 4] : List Nat), ((growC (n : Int) false).toNat : Int) = 119 + n ∧ ((growC (n : Int) true).toNat : Int) = 87 + n := by decide +kernel
theorem growC_no {n : Int} (h : 2 ≤ n ∧ n ≤ 4) : ((growC n false).toNat : Int) = 119 + n := by
  have := (growC_tab n.toNat (by simp; omega)).1
  rw [show ((n.toNat : Nat) : Int) = n by omega] at this
  exact this
theorem growC_yes {n : Int} (h : 2 ≤ n ∧ n ≤ 4) : ((growC n true).toNat : Int) = 87 + n := by
  have := (growC_tab n.toNat (by simp; omega)).2
  rw [show ((n.toNat : Nat) : Int) = n by omega] at this
  exact this
def growB (n : Int) (s : ByteArray) : Bool := braidB n s && (decide (n ≠ 4) && decide (s.size ≠ 30))
def grownS (n : Int) (s : ByteArray) (back : Bool) : ByteArray := s ++ bstr [growC n back]
theorem grown_all : ∀ n ∈ ([2, 3] : List Nat), ∀ b ∈ [true, false], brL ((n : Int) + 1) (growC n b) = true := by decide +kernel
theorem grown_yes {n : Int} {s : ByteArray} (back : Bool) (h : growB n s = true) : braidB (n + 1) (grownS n s back) = true := by
  unfold growB at h
  simp only [Bool.and_eq_true, decide_eq_true_eq] at h
  obtain ⟨h1, h2, h3⟩ := h
  obtain ⟨p1, p2, p3⟩ := braid_all h1
  refine braid_of_all (by omega) (by unfold grownS; rw [ByteArray.size_append]; show s.size + 1 ≤ 30; omega) fun c hc => ?_
  unfold grownS at hc
  rw [append_toList] at hc
  rcases List.mem_append.1 hc with h | h
  · obtain ⟨q1, q2⟩ := p3 c h; exact ⟨q1, by omega⟩
  · have hc' : c = growC n back := by simpa [bstr] using h
    subst hc'
    have := grown_all n.toNat (by simp; omega) back (by cases back <;> simp)
    rw [show ((n.toNat : Nat) : Int) = n by omega] at this
    unfold brL at this
    simpa using this
theorem grown_no {n : Int} {s : ByteArray} (back : Bool) (h1 : braidB n s = true) (h : growB n s = false) : braidB (n + 1) (grownS n s back) = false := by
  unfold growB at h
  rw [h1] at h
  simp only [Bool.true_and, Bool.and_eq_false_iff, decide_eq_false_iff_not] at h
  rcases h with h | h
  · exact braidB_no1 (by omega)
  · exact braidB_no2 (by unfold grownS; rw [ByteArray.size_append]; show ¬ s.size + 1 ≤ 30; omega)

set_option maxRecDepth 100000 in
set_option maxHeartbeats 2000000 in
theorem sBraidGrow_any (n : Int) (s : ByteArray) (back : Bool) (w : World) (hs : s.size ≤ maxLen) :
    Calls Try.prog 40 #[brV n s, .bool back] w fun e w' => e = .returned (brR (growB n s) (n + 1) (grownS n s back)) ∧ Below w.heap.size w w' := by
  obtain ⟨W, hW⟩ : ∃ W, (w.alloc (.cells #[.int .i64 n, .string s] 26)).alloc (.cells #[.int .i64 0, .string { data := #[] }] 26) = W := ⟨_, rfl⟩
  have HX := Lib.hid (twoBox hW)
  have HW := Lib.hid hW
  clear hW
  have hsz := HX.out.2.1
  obtain ⟨b, hb⟩ : ∃ b, braidB n s = b := ⟨_, rfl⟩
  have HA := Lib.hid (fun w => sBraidIn_any n s b w hs hb)
  have HB := Lib.hid hb
  have HT : Hid (growB n s = (b && (decide (n ≠ 4) && decide (s.size ≠ 30)))) := Lib.hid (by unfold growB; rw [hb])
  clear hb
  obtain ⟨⟨c0, c1⟩, _, _⟩ := boxOf2 HX.out.2.2.1 (Below.refl _ W)
  go_enter Try.func40, Try.ntmps40
  go_wp2_with fail
  rw [HW.out]
  refine (HA.out W).mono ?_
  rintro e w1 ⟨rfl, hb1⟩
  clear c0 c1
  obtain ⟨⟨d0, d1⟩, f0, f1⟩ := boxOf2 HX.out.2.2.2 hb1
  obtain ⟨⟨c0, c1⟩, _, _⟩ := boxOf2 HX.out.2.2.1 hb1
  have HBX := Lib.hid (HX.out.1.trans (hb1.mono HX.out.1.size))
  have hws : w.heap.size + 1 < w1.heap.size := by have := hb1.size; omega
  clear hb1
  cases b with
  | false =>
    go_wp2
    refine bodyPost_ret (v := brR false (n + 1) (grownS n s back)) ?_ rfl ⟨by rw [HT.out]; rfl, below_two HBX.out (by omega) _ _⟩
    simp [results, Try.results40, go_sem, d0, d1, brR]
  | true =>
    obtain ⟨⟨p1, p2⟩, p3, _⟩ := braid_all HB.out
    by_cases h4 : n = 4
    · have HF : Hid (growB n s = false) := Lib.hid (by rw [HT.out, decide_eq_false (by simpa using h4)]; rfl)
      have hd : (n == 4) = true := by simpa using h4
      go_wp2
      refine bodyPost_ret (v := brR false (n + 1) (grownS n s back)) ?_ rfl ⟨by rw [HF.out], below_two HBX.out (by omega) _ _⟩
      simp [results, Try.results40, go_sem, d0, d1, brR]
    · have hd : (n == 4) = false := by simpa using h4
      by_cases h30 : s.size = 30
      · have HF : Hid (growB n s = false) := Lib.hid (by rw [HT.out, decide_eq_false (show ¬ s.size ≠ 30 by simpa using h30)]; simp)
        have hd3 : ((s.size : Int) == 30) = true := by simp; omega
        go_wp2
        refine bodyPost_ret (v := brR false (n + 1) (grownS n s back)) ?_ rfl ⟨by rw [HF.out], below_two HBX.out (by omega) _ _⟩
        simp [results, Try.results40, go_sem, d0, d1, brR]
      · have HF : Hid (growB n s = true) := Lib.hid (by rw [HT.out, decide_eq_true h4, decide_eq_true h30]; rfl)
        have hd3 : ((s.size : Int) == 30) = false := by simp; omega
        have hcv1 := conv_byte (growC n false) (120 + n - 1) (by rw [growC_no ⟨p1, p2⟩]; omega) w1
        have hcv2 := conv_byte (growC n true) (88 + n - 1) (by rw [growC_yes ⟨p1, p2⟩]; omega) w1
        have hnot : ¬ 9223372036854775807 < s.size + 1 := by omega
        cases back with
        | false =>
          go_wp2
          refine bodyPost_ret (v := brR true (n + 1) (grownS n s false)) ?_ rfl ⟨by rw [HF.out], (below_two HBX.out (by omega) _ _).alloc (by simp; omega) _⟩
          have e0 := World.cell?_alloc_lt ((w1.setCell ⟨w.heap.size + 1, 0, none⟩ (.int .i64 (n + 1))).setCell ⟨w.heap.size + 1, 1, none⟩ (.string (s ++ bstr [growC n false]))) (.cells #[.int .u8 (120 + n - 1)] 5) ⟨w.heap.size + 1, 0, none⟩ (by simp; omega)
          have e1 := World.cell?_alloc_lt ((w1.setCell ⟨w.heap.size + 1, 0, none⟩ (.int .i64 (n + 1))).setCell ⟨w.heap.size + 1, 1, none⟩ (.string (s ++ bstr [growC n false]))) (.cells #[.int .u8 (120 + n - 1)] 5) ⟨w.heap.size + 1, 1, none⟩ (by simp; omega)
          simp [results, Try.results40, go_sem, d0, d1, brR, e0, e1, grownS]
        | true =>
          go_wp2
          refine bodyPost_ret (v := brR true (n + 1) (grownS n s true)) ?_ rfl ⟨by rw [HF.out], (below_two HBX.out (by omega) _ _).alloc (by simp; omega) _⟩
          have e0 := World.cell?_alloc_lt ((w1.setCell ⟨w.heap.size + 1, 0, none⟩ (.int .i64 (n + 1))).setCell ⟨w.heap.size + 1, 1, none⟩ (.string (s ++ bstr [growC n true]))) (.cells #[.int .u8 (88 + n - 1)] 5) ⟨w.heap.size + 1, 0, none⟩ (by simp; omega)
          have e1 := World.cell?_alloc_lt ((w1.setCell ⟨w.heap.size + 1, 0, none⟩ (.int .i64 (n + 1))).setCell ⟨w.heap.size + 1, 1, none⟩ (.string (s ++ bstr [growC n true]))) (.cells #[.int .u8 (88 + n - 1)] 5) ⟨w.heap.size + 1, 1, none⟩ (by simp; omega)
          simp [results, Try.results40, go_sem, d0, d1, brR, e0, e1, grownS]

theorem grow_inv : ∀ n ∈ ([2, 3, 4] : List Nat), invB (growC (n : Int) false) = growC (n : Int) true := by decide +kernel
theorem inverse_grow (n : Int) (h : 2 ≤ n ∧ n ≤ 4) (w : World) :
    Calls Try.prog 75 #[.int .u8 (120 + n - 1)] w fun e w' => e = .returned (.int .u8 (88 + n - 1)) ∧ w' = w := by
  have hi := grow_inv n.toNat (by simp; omega)
  rw [show ((n.toNat : Nat) : Int) = n by omega] at hi
  have h1 := inverse_any (growC n false) w
  rw [hi, growC_no h, growC_yes h, show (119 + n : Int) = 120 + n - 1 by omega, show (87 + n : Int) = 88 + n - 1 by omega] at h1
  exact h1
theorem growB_eq {n : Int} {s : ByteArray} (back : Bool) (h1 : braidB n s = true) : growB n s = braidB (n + 1) (grownS n s back) := by
  cases h : growB n s with
  | true => exact (grown_yes back h).symm
  | false => exact (grown_no back h1 h).symm

set_option maxRecDepth 100000 in
set_option maxHeartbeats 2000000 in
theorem iBraidGrow_any (n : Int) (s : ByteArray) (back : Bool) (w : World) (hs : s.size ≤ maxLen) :
    Calls Try.prog 41 #[brV n s, .bool back] w fun e w' => e = .returned (brR (growB n s) (n + 1) (grownS n s back)) ∧ Below w.heap.size w w' := by
  obtain ⟨W, hW⟩ : ∃ W, (w.alloc (.cells #[.int .i64 n, .string s] 26)).alloc (.cells #[.int .i64 0, .string { data := #[] }] 26) = W := ⟨_, rfl⟩
  have HX := Lib.hid (twoBox hW)
  have HW := Lib.hid hW
  clear hW
  have hsz := HX.out.2.1
  obtain ⟨b, hb⟩ : ∃ b, braidB n s = b := ⟨_, rfl⟩
  have HA := Lib.hid (fun w => iBraidIn_any n s b w hs hb)
  have HB := Lib.hid hb
  clear hb
  obtain ⟨⟨c0, c1⟩, _, _⟩ := boxOf2 HX.out.2.2.1 (Below.refl _ W)
  go_enter Try.func41, Try.ntmps41
  go_wp2_with fail
  rw [HW.out]
  refine (HA.out W).mono ?_
  rintro e w1 ⟨rfl, hb1⟩
  clear c0 c1
  obtain ⟨⟨d0, d1⟩, f0, f1⟩ := boxOf2 HX.out.2.2.2 hb1
  obtain ⟨⟨c0, c1⟩, _, _⟩ := boxOf2 HX.out.2.2.1 hb1
  have HBX := Lib.hid (HX.out.1.trans (hb1.mono HX.out.1.size))
  have hws : w.heap.size + 1 < w1.heap.size := by have := hb1.size; omega
  have HB1 := Lib.hid hb1
  clear hb1
  cases b with
  | false =>
    have HF : Hid (growB n s = false) := Lib.hid (by unfold growB; rw [HB.out]; rfl)
    go_wp2
    refine bodyPost_ret (v := brR false (n + 1) (grownS n s back)) ?_ rfl ⟨by rw [HF.out], below_two HBX.out (by omega) _ _⟩
    simp [results, Try.results41, go_sem, d0, d1, brR]
  | true =>
    obtain ⟨⟨p1, p2⟩, p3, _⟩ := braid_all HB.out
    have HF := Lib.hid (growB_eq back HB.out)
    have hw1 : IntKind.u8.wrap (119 + n) = 119 + n := IntWalk.u8_in _ (by omega)
    have hw2 : IntKind.u8.wrap (87 + n) = 87 + n := IntWalk.u8_in _ (by omega)
    have hcv1 := conv_byte (growC n false) (120 + n - 1) (by rw [growC_no ⟨p1, p2⟩]; omega) w1
    have hcv2 := conv_byte (growC n true) (88 + n - 1) (by rw [growC_yes ⟨p1, p2⟩]; omega) w1
    have HIN := Lib.hid (fun w => inverse_grow n ⟨p1, p2⟩ w)
    have hnot : ¬ 9223372036854775807 < s.size + 1 := by omega
    have hsz2 : (s ++ bstr [growC n back]).size ≤ maxLen := by rw [ByteArray.size_append, bstr_size]; unfold maxLen; simp; omega
    have HTD := Lib.hid (fun w => toldB_any (n + 1) (s ++ bstr [growC n back]) w hsz2)
    clear hsz2
    cases back with
    | false =>
      go_wp2_with fail
      refine (HTD.out _).mono ?_
      rintro e w3 ⟨rfl, hb3⟩
      have HB3 := Lib.hid ((HB1.out.alloc HB1.out.size (.cells #[.int .u8 (120 + n - 1)] 5)).trans (hb3.mono (by have := HB1.out.size; simp; omega)))
      have HBY := Lib.hid (HX.out.1.trans (HB3.out.mono HX.out.1.size))
      clear hb3 d0 d1 f0 f1 hcv1 hcv2
      obtain ⟨⟨d0, d1⟩, f0, f1⟩ := boxOf2 HX.out.2.2.2 HB3.out
      cases hb : braidB (n + 1) (s ++ bstr [growC n false]) with
      | true =>
        have HV := Lib.hid hb
        rw [brR_yes]
        clear hb
        go_wp2
        refine bodyPost_ret (v := brR true (n + 1) (grownS n s false)) ?_ rfl ⟨by rw [HF.out]; unfold grownS; rw [HV.out], below_two HBY.out (by omega) _ _⟩
        simp [results, Try.results41, go_sem, d0, d1, brR, grownS]
      | false =>
        have HV := Lib.hid hb
        rw [brR_no]
        clear hb
        go_wp2
        refine bodyPost_ret (v := brR false (n + 1) (grownS n s false)) ?_ rfl ⟨by rw [HF.out]; unfold grownS; rw [HV.out], below_two HBY.out (by omega) _ _⟩
        simp [results, Try.results41, go_sem, d0, d1, brR]
    | true =>
      go_wp2_with fail
      refine (HIN.out w1).mono ?_
      rintro e w2 ⟨rfl, rfl⟩
      go_wp2_with fail
      refine (HTD.out _).mono ?_
      rintro e w3 ⟨rfl, hb3⟩
      have HB3 := Lib.hid ((HB1.out.alloc HB1.out.size (.cells #[.int .u8 (88 + n - 1)] 5)).trans (hb3.mono (by have := HB1.out.size; simp; omega)))
      have HBY := Lib.hid (HX.out.1.trans (HB3.out.mono HX.out.1.size))
      clear hb3 d0 d1 f0 f1 hcv1 hcv2
      obtain ⟨⟨d0, d1⟩, f0, f1⟩ := boxOf2 HX.out.2.2.2 HB3.out
      cases hb : braidB (n + 1) (s ++ bstr [growC n true]) with
      | true =>
        have HV := Lib.hid hb
        rw [brR_yes]
        clear hb
        go_wp2
        refine bodyPost_ret (v := brR true (n + 1) (grownS n s true)) ?_ rfl ⟨by rw [HF.out]; unfold grownS; rw [HV.out], below_two HBY.out (by omega) _ _⟩
        simp [results, Try.results41, go_sem, d0, d1, brR, grownS]
      | false =>
        have HV := Lib.hid hb
        rw [brR_no]
        clear hb
        go_wp2
        refine bodyPost_ret (v := brR false (n + 1) (grownS n s true)) ?_ rfl ⟨by rw [HF.out]; unfold grownS; rw [HV.out], below_two HBY.out (by omega) _ _⟩
        simp [results, Try.results41, go_sem, d0, d1, brR]
end Go.Proofs.Ytaaeiogdhmiaaaa

/- What the laws' proofs stand on, part 4 of several. -/
import Derived.Deep.RegionHeld3
import Derived.Test.YtaaeiogdhmiaaaaBwa
import Derived.Test.YtaaeiogdhmiaaaaBwb
import Derived.Test.YtaaeiogdhmiaaaaBwc

/- The contracts of BraidGrow, the model's and the program's, and of the model's BraidTurned. -/

namespace Go.Proofs.Ytaaeiogdhmiaaaa
open Go.RowKit

def growC (n : Int) (back : Bool) : UInt8 := UInt8.ofNat ((if back then 87 else 119) + n.toNat)
theorem growC_tab : ∀ n ∈ ([2, 3, 4] : List Nat), ((growC (n : Int) false).toNat : Int) = 119 + n ∧ ((growC (n : Int) true).toNat : Int) = 87 + n := by decide +kernel
theorem growC_no {n : Int} (h : 2 ≤ n ∧ n ≤ 4) : ((growC n false).toNat : Int) = 119 + n := by
  have := (growC_tab n.toNat (by simp; omega)).1
  rw [show ((n.toNat : Nat) : Int) = n by omega] at this
  exact this
theorem growC_yes {n : Int} (h : 2 ≤ n ∧ n ≤ 4) : ((growC n true).toNat : Int) = 87 + n := by
  have := (growC_tab n.toNat (by simp; omega)).2
  rw [show ((n.toNat : Nat) : Int) = n by omega] at this
  exact this
def growB (n : Int) (s : ByteArray) : Bool := braidB n s && (decide (n ≠ 4) && decide (s.size ≠ 30))
def grownS (n : Int) (s : ByteArray) (back : Bool) : ByteArray := s ++ bstr [growC n back]
theorem grown_all : ∀ n ∈ ([2, 3] : List Nat), ∀ b ∈ [true, false], brL ((n : Int) + 1) (growC n b) = true := by decide +kernel
theorem grown_yes {n : Int} {s : ByteArray} (back : Bool) (h : growB n s = true) : braidB (n + 1) (grownS n s back) = true := by
  unfold growB at h
  simp only [Bool.and_eq_true, decide_eq_true_eq] at h
  obtain ⟨h1, h2, h3⟩ := h
  obtain ⟨p1, p2, p3⟩ := braid_all h1
  refine braid_of_all (by omega) (by unfold grownS; rw [ByteArray.size_append]; show s.size + 1 ≤ 30; omega) fun c hc => ?_
  unfold grownS at hc
  rw [append_toList] at hc
  rcases List.mem_append.1 hc with h | h
  · obtain ⟨q1, q2⟩ := p3 c h; exact ⟨q1, by omega⟩
  · have hc' : c = growC n back := by simpa [bstr] using h
    subst hc'
    have := grown_all n.toNat (by simp; omega) back (by cases back <;> simp)
    rw [show ((n.toNat : Nat) : Int) = n by omega] at this
    unfold brL at this
    simpa using this
theorem grown_no {n : Int} {s : ByteArray} (back : Bool) (h1 : braidB n s = true) (h : growB n s = false) : braidB (n + 1) (grownS n s back) = false := by
  unfold growB at h
  rw [h1] at h
  simp only [Bool.true_and, Bool.and_eq_false_iff, decide_eq_false_iff_not] at h
  rcases h with h | h
  · exact braidB_no1 (by omega)
  · exact braidB_no2 (by unfold grownS; rw [ByteArray.size_append]; show ¬ s.size + 1 ≤ 30; omega)

set_option maxRecDepth 100000 in
set_option maxHeartbeats 2000000 in
theorem sBraidGrow_any (n : Int) (s : ByteArray) (back : Bool) (w : World) (hs : s.size ≤ maxLen) :
    Calls Try.prog 40 #[brV n s, .bool back] w fun e w' => e = .returned (brR (growB n s) (n + 1) (grownS n s back)) ∧ Below w.heap.size w w' := by
  obtain ⟨W, hW⟩ : ∃ W, (w.alloc (.cells #[.int .i64 n, .string s] 26)).alloc (.cells #[.int .i64 0, .string { data := #[] }] 26) = W := ⟨_, rfl⟩
  have HX := Lib.hid (twoBox hW)
  have HW := Lib.hid hW
  clear hW
  have hsz := HX.out.2.1
  obtain ⟨b, hb⟩ : ∃ b, braidB n s = b := ⟨_, rfl⟩
  have HA := Lib.hid (fun w => sBraidIn_any n s b w hs hb)
  have HB := Lib.hid hb
  have HT : Hid (growB n s = (b && (decide (n ≠ 4) && decide (s.size ≠ 30)))) := Lib.hid (by unfold growB; rw [hb])
  clear hb
  obtain ⟨⟨c0, c1⟩, _, _⟩ := boxOf2 HX.out.2.2.1 (Below.refl _ W)
  go_enter Try.func40, Try.ntmps40
  go_wp2_with fail
  rw [HW.out]
  refine (HA.out W).mono ?_
  rintro e w1 ⟨rfl, hb1⟩
  clear c0 c1
  obtain ⟨⟨d0, d1⟩, f0, f1⟩ := boxOf2 HX.out.2.2.2 hb1
  obtain ⟨⟨c0, c1⟩, _, _⟩ := boxOf2 HX.out.2.2.1 hb1
  have HBX := Lib.hid (HX.out.1.trans (hb1.mono HX.out.1.size))
  have hws : w.heap.size + 1 < w1.heap.size := by have := hb1.size; omega
  clear hb1
  cases b with
  | false =>
    go_wp2
    refine bodyPost_ret (v := brR false (n + 1) (grownS n s back)) ?_ rfl ⟨by rw [HT.out]; rfl, below_two HBX.out (by omega) _ _⟩
    simp [results, Try.results40, go_sem, d0, d1, brR]
  | true =>
    obtain ⟨⟨p1, p2⟩, p3, _⟩ := braid_all HB.out
    by_cases h4 : n = 4
    · have HF : Hid (growB n s = false) := Lib.hid (by rw [HT.out, decide_eq_false (by simpa using h4)]; rfl)
      have hd : (n == 4) = true := by simpa using h4
      go_wp2
      refine bodyPost_ret (v := brR false (n + 1) (grownS n s back)) ?_ rfl ⟨by rw [HF.out], below_two HBX.out (by omega) _ _⟩
      simp [results, Try.results40, go_sem, d0, d1, brR]
    · have hd : (n == 4) = false := by simpa using h4
      by_cases h30 : s.size = 30
      · have HF : Hid (growB n s = false) := Lib.hid (by rw [HT.out, decide_eq_false (show ¬ s.size ≠ 30 by simpa using h30)]; simp)
        have hd3 : ((s.size : Int) == 30) = true := by simp; omega
        go_wp2
        refine bodyPost_ret (v := brR false (n + 1) (grownS n s back)) ?_ rfl ⟨by rw [HF.out], below_two HBX.out (by omega) _ _⟩
        simp [results, Try.results40, go_sem, d0, d1, brR]
      · have HF : Hid (growB n s = true) := Lib.hid (by rw [HT.out, decide_eq_true h4, decide_eq_true h30]; rfl)
        have hd3 : ((s.size : Int) == 30) = false := by simp; omega
        have hcv1 := conv_byte (growC n false) (120 + n - 1) (by rw [growC_no ⟨p1, p2⟩]; omega) w1
        have hcv2 := conv_byte (growC n true) (88 + n - 1) (by rw [growC_yes ⟨p1, p2⟩]; omega) w1
        have hnot : ¬ 9223372036854775807 < s.size + 1 := by omega
        cases back with
        | false =>
          go_wp2
          refine bodyPost_ret (v := brR true (n + 1) (grownS n s false)) ?_ rfl ⟨by rw [HF.out], (below_two HBX.out (by omega) _ _).alloc (by simp; omega) _⟩
          have e0 := World.cell?_alloc_lt ((w1.setCell ⟨w.heap.size + 1, 0, none⟩ (.int .i64 (n + 1))).setCell ⟨w.heap.size + 1, 1, none⟩ (.string (s ++ bstr [growC n false]))) (.cells #[.int .u8 (120 + n - 1)] 5) ⟨w.heap.size + 1, 0, none⟩ (by simp; omega)
          have e1 := World.cell?_alloc_lt ((w1.setCell ⟨w.heap.size + 1, 0, none⟩ (.int .i64 (n + 1))).setCell ⟨w.heap.size + 1, 1, none⟩ (.string (s ++ bstr [growC n false]))) (.cells #[.int .u8 (120 + n - 1)] 5) ⟨w.heap.size + 1, 1, none⟩ (by simp; omega)
          simp [results, Try.results40, go_sem, d0, d1, brR, e0, e1, grownS]
        | true =>
          go_wp2
          refine bodyPost_ret (v := brR true (n + 1) (grownS n s true)) ?_ rfl ⟨by rw [HF.out], (below_two HBX.out (by omega) _ _).alloc (by simp; omega) _⟩
          have e0 := World.cell?_alloc_lt ((w1.setCell ⟨w.heap.size + 1, 0, none⟩ (.int .i64 (n + 1))).setCell ⟨w.heap.size + 1, 1, none⟩ (.string (s ++ bstr [growC n true]))) (.cells #[.int .u8 (88 + n - 1)] 5) ⟨w.heap.size + 1, 0, none⟩ (by simp; omega)
          have e1 := World.cell?_alloc_lt ((w1.setCell ⟨w.heap.size + 1, 0, none⟩ (.int .i64 (n + 1))).setCell ⟨w.heap.size + 1, 1, none⟩ (.string (s ++ bstr [growC n true]))) (.cells #[.int .u8 (88 + n - 1)] 5) ⟨w.heap.size + 1, 1, none⟩ (by simp; omega)
          simp [results, Try.results40, go_sem, d0, d1, brR, e0, e1, grownS]

theorem grow_inv : ∀ n ∈ ([2, 3, 4] : List Nat), invB (growC (n : Int) false) = growC (n : Int) true := by decide +kernel
theorem inverse_grow (n : Int) (h : 2 ≤ n ∧ n ≤ 4) (w : World) :
    Calls Try.prog 75 #[.int .u8 (120 + n - 1)] w fun e w' => e = .returned (.int .u8 (88 + n - 1)) ∧ w' = w := by
  have hi := grow_inv n.toNat (by simp; omega)
  rw [show ((n.toNat : Nat) : Int) = n by omega] at hi
  have h1 := inverse_any (growC n false) w
  rw [hi, growC_no h, growC_yes h, show (119 + n : Int) = 120 + n - 1 by omega, show (87 + n : Int) = 88 + n - 1 by omega] at h1
  exact h1
theorem growB_eq {n : Int} {s : ByteArray} (back : Bool) (h1 : braidB n s = true) : growB n s = braidB (n + 1) (grownS n s back) := by
  cases h : growB n s with
  | true => exact (grown_yes back h).symm
  | false => exact (grown_no back h1 h).symm

set_option maxRecDepth 100000 in
set_option maxHeartbeats 2000000 in
theorem iBraidGrow_any (n : Int) (s : ByteArray) (back : Bool) (w : World) (hs : s.size ≤ maxLen) :
    Calls Try.prog 41 #[brV n s, .bool back] w fun e w' => e = .returned (brR (growB n s) (n + 1) (grownS n s back)) ∧ Below w.heap.size w w' := by
  obtain ⟨W, hW⟩ : ∃ W, (w.alloc (.cells #[.int .i64 n, .string s] 26)).alloc (.cells #[.int .i64 0, .string { data := #[] }] 26) = W := ⟨_, rfl⟩
  have HX := Lib.hid (twoBox hW)
  have HW := Lib.hid hW
  clear hW
  have hsz := HX.out.2.1
  obtain ⟨b, hb⟩ : ∃ b, braidB n s = b := ⟨_, rfl⟩
  have HA := Lib.hid (fun w => iBraidIn_any n s b w hs hb)
  have HB := Lib.hid hb
  clear hb
  obtain ⟨⟨c0, c1⟩, _, _⟩ := boxOf2 HX.out.2.2.1 (Below.refl _ W)
  go_enter Try.func41, Try.ntmps41
  go_wp2_with fail
  rw [HW.out]
  refine (HA.out W).mono ?_
  rintro e w1 ⟨rfl, hb1⟩
  clear c0 c1
  obtain ⟨⟨d0, d1⟩, f0, f1⟩ := boxOf2 HX.out.2.2.2 hb1
  obtain ⟨⟨c0, c1⟩, _, _⟩ := boxOf2 HX.out.2.2.1 hb1
  have HBX := Lib.hid (HX.out.1.trans (hb1.mono HX.out.1.size))
  have hws : w.heap.size + 1 < w1.heap.size := by have := hb1.size; omega
  have HB1 := Lib.hid hb1
  clear hb1
  cases b with
  | false =>
    have HF : Hid (growB n s = false) := Lib.hid (by unfold growB; rw [HB.out]; rfl)
    go_wp2
    refine bodyPost_ret (v := brR false (n + 1) (grownS n s back)) ?_ rfl ⟨by rw [HF.out], below_two HBX.out (by omega) _ _⟩
    simp [results, Try.results41, go_sem, d0, d1, brR]
  | true =>
    obtain ⟨⟨p1, p2⟩, p3, _⟩ := braid_all HB.out
    have HF := Lib.hid (growB_eq back HB.out)
    have hw1 : IntKind.u8.wrap (119 + n) = 119 + n := IntWalk.u8_in _ (by omega)
    have hw2 : IntKind.u8.wrap (87 + n) = 87 + n := IntWalk.u8_in _ (by omega)
    have hcv1 := conv_byte (growC n false) (120 + n - 1) (by rw [growC_no ⟨p1, p2⟩]; omega) w1
    have hcv2 := conv_byte (growC n true) (88 + n - 1) (by rw [growC_yes ⟨p1, p2⟩]; omega) w1
    have HIN := Lib.hid (fun w => inverse_grow n ⟨p1, p2⟩ w)
    have hnot : ¬ 9223372036854775807 < s.size + 1 := by omega
    have hsz2 : (s ++ bstr [growC n back]).size ≤ maxLen := by rw [ByteArray.size_append, bstr_size]; unfold maxLen; simp; omega
    have HTD := Lib.hid (fun w => toldB_any (n + 1) (s ++ bstr [growC n back]) w hsz2)
    clear hsz2
    cases back with
    | false =>
      go_wp2_with fail
      refine (HTD.out _).mono ?_
      rintro e w3 ⟨rfl, hb3⟩
      have HB3 := Lib.hid ((HB1.out.alloc HB1.out.size (.cells #[.int .u8 (120 + n - 1)] 5)).trans (hb3.mono (by have := HB1.out.size; simp; omega)))
      have HBY := Lib.hid (HX.out.1.trans (HB3.out.mono HX.out.1.size))
      clear hb3 d0 d1 f0 f1 hcv1 hcv2
      obtain ⟨⟨d0, d1⟩, f0, f1⟩ := boxOf2 HX.out.2.2.2 HB3.out
      cases hb : braidB (n + 1) (s ++ bstr [growC n false]) with
      | true =>
        have HV := Lib.hid hb
        rw [brR_yes]
        clear hb
        go_wp2
        refine bodyPost_ret (v := brR true (n + 1) (grownS n s false)) ?_ rfl ⟨by rw [HF.out]; unfold grownS; rw [HV.out], below_two HBY.out (by omega) _ _⟩
        simp [results, Try.results41, go_sem, d0, d1, brR, grownS]
      | false =>
        have HV := Lib.hid hb
        rw [brR_no]
        clear hb
        go_wp2
        refine bodyPost_ret (v := brR false (n + 1) (grownS n s false)) ?_ rfl ⟨by rw [HF.out]; unfold grownS; rw [HV.out], below_two HBY.out (by omega) _ _⟩
        simp [results, Try.results41, go_sem, d0, d1, brR]
    | true =>
      go_wp2_with fail
      refine (HIN.out w1).mono ?_
      rintro e w2 ⟨rfl, rfl⟩
      go_wp2_with fail
      refine (HTD.out _).mono ?_
      rintro e w3 ⟨rfl, hb3⟩
      have HB3 := Lib.hid ((HB1.out.alloc HB1.out.size (.cells #[.int .u8 (88 + n - 1)] 5)).trans (hb3.mono (by have := HB1.out.size; simp; omega)))
      have HBY := Lib.hid (HX.out.1.trans (HB3.out.mono HX.out.1.size))
      clear hb3 d0 d1 f0 f1 hcv1 hcv2
      obtain ⟨⟨d0, d1⟩, f0, f1⟩ := boxOf2 HX.out.2.2.2 HB3.out
      cases hb : braidB (n + 1) (s ++ bstr [growC n true]) with
      | true =>
        have HV := Lib.hid hb
        rw [brR_yes]
        clear hb
        go_wp2
        refine bodyPost_ret (v := brR true (n + 1) (grownS n s true)) ?_ rfl ⟨by rw [HF.out]; unfold grownS; rw [HV.out], below_two HBY.out (by omega) _ _⟩
        simp [results, Try.results41, go_sem, d0, d1, brR, grownS]
      | false =>
        have HV := Lib.hid hb
        rw [brR_no]
        clear hb
        go_wp2
        refine bodyPost_ret (v := brR false (n + 1) (grownS n s true)) ?_ rfl ⟨by rw [HF.out]; unfold grownS; rw [HV.out], below_two HBY.out (by omega) _ _⟩
        simp [results, Try.results41, go_sem, d0, d1, brR]
end Go.Proofs.Ytaaeiogdhmiaaaa

/- The contracts of the model's BraidTurned and BraidSum. -/

namespace Go.Proofs.Ytaaeiogdhmiaaaa
open Go.RowKit

set_option maxRecDepth 100000 in
set_option maxHeartbeats 2000000 in
theorem sBraidTurned_any (n : Int) (s : ByteArray) (w : World) (hs : s.size ≤ maxLen) :
    Calls Try.prog 29 #[brV n s] w fun e w' => e = .returned (brR (braidB n s) n (bstr (backL s.data.toList))) ∧ Below w.heap.size w w' := by
  obtain ⟨W, hW⟩ : ∃ W, (w.alloc (.cells #[.int .i64 n, .string s] 26)).alloc (.cells #[.int .i64 0, .string { data := #[] }] 26) = W := ⟨_, rfl⟩
  have HX := Lib.hid (twoBox hW)
  have HW := Lib.hid hW
  clear hW
  have hsz := HX.out.2.1
  obtain ⟨b, hb⟩ : ∃ b, braidB n s = b := ⟨_, rfl⟩
  have HA := Lib.hid (fun w => sBraidIn_any n s b w hs hb)
  have HB := Lib.hid hb
  clear hb
  obtain ⟨⟨c0, c1⟩, _, _⟩ := boxOf2 HX.out.2.2.1 (Below.refl _ W)
  go_enter Try.func29, Try.ntmps29
  go_wp2_with fail
  rw [HW.out]
  refine (HA.out W).mono ?_
  rintro e w1 ⟨rfl, hb1⟩
  clear c0 c1
  obtain ⟨⟨d0, d1⟩, f0, f1⟩ := boxOf2 HX.out.2.2.2 hb1
  obtain ⟨⟨c0, c1⟩, _, _⟩ := boxOf2 HX.out.2.2.1 hb1
  have HBX := Lib.hid (HX.out.1.trans (hb1.mono HX.out.1.size))
  have HB1 := Lib.hid hb1
  clear hb1
  cases b with
  | false =>
    go_wp2
    refine bodyPost_ret (v := brR false n (bstr (backL s.data.toList))) ?_ rfl ⟨by rw [HB.out], below_two HBX.out (by omega) _ _⟩
    simp [results, Try.results29, go_sem, d0, d1, brR]
  | true =>
    obtain ⟨⟨p1, p2⟩, p3, _⟩ := braid_all HB.out
    have n1 : ¬ w.heap.size = w.heap.size + 1 := by omega
    have n2 : ¬ w.heap.size + 1 = w.heap.size := by omega
    have HSZ := Lib.hid hsz
    clear hsz
    go_wp2_with fail
    go_region_held3 (fun w' : World => w'.cell? ⟨w.heap.size, 0, none⟩ = some (.int .i64 n) ∧ w'.cell? ⟨w.heap.size, 1, none⟩ = some (.string s)) (first | go_keep | exact ⟨c0, c1⟩)
      (first
        | (go_at_call 73
           refine (back_any s _ (by omega)).mono ?_
           rintro e w3 ⟨rfl, hb3⟩
           have hb3' := Below.trans (Below.refl w1.heap.size w1).drew hb3
           have HB3 := Lib.hid (HB1.out.trans (hb3'.mono HB1.out.size))
           clear hb3 hb3' c0 c1 d0 d1 f0 f1
           obtain ⟨⟨d0, d1⟩, f0, f1⟩ := boxOf2 HX.out.2.2.2 HB3.out
           obtain ⟨⟨c0, c1⟩, _, _⟩ := boxOf2 HX.out.2.2.1 HB3.out))
    all_goals
      go_wp2
      refine bodyPost_ret (v := brR true n (bstr (backL s.data.toList))) ?_ rfl ⟨by rw [HB.out], below_two (HX.out.1.trans (HB3.out.mono HX.out.1.size)) (by omega) _ _⟩
      simp [results, Try.results29, go_sem, d0, d1, brR]

/-- A number as an answer, and whether it is told. -/
def numR (b : Bool) (z : Int) : Value := .tuple #[.int .i64 (if b then z else 0), .bool b]

set_option maxRecDepth 100000 in
set_option maxHeartbeats 2000000 in
theorem sBraidSum_any (n : Int) (s : ByteArray) (w : World) (hs : s.size ≤ maxLen) :
    Calls Try.prog 38 #[brV n s] w fun e w' => e = .returned (numR (braidB n s) (sgSum s.data.toList)) ∧ Below w.heap.size w w' := by
  obtain ⟨W, hW⟩ : ∃ W, w.alloc (.cells #[.int .i64 n, .string s] 26) = W := ⟨_, rfl⟩
  have HX := Lib.hid (oneBox hW)
  have HW := Lib.hid hW
  clear hW
  have hsz := HX.out.2.1
  obtain ⟨b, hb⟩ : ∃ b, braidB n s = b := ⟨_, rfl⟩
  have HA := Lib.hid (fun w => sBraidIn_any n s b w hs hb)
  have HB := Lib.hid hb
  clear hb
  obtain ⟨⟨c0, c1⟩, _, _⟩ := boxOf2 HX.out.2.2 (Below.refl _ W)
  go_enter Try.func38, Try.ntmps38
  go_wp2_with fail
  rw [HW.out]
  refine (HA.out W).mono ?_
  rintro e w1 ⟨rfl, hb1⟩
  clear c0 c1
  obtain ⟨⟨c0, c1⟩, _, _⟩ := boxOf2 HX.out.2.2 hb1
  have HBX := Lib.hid (HX.out.1.trans (hb1.mono HX.out.1.size))
  clear hb1
  cases b with
  | false =>
    go_wp2
    go_ret2
    exact ⟨by rw [HB.out]; rfl, HBX.out⟩
  | true =>
    obtain ⟨_, p3, _⟩ := braid_all HB.out
    go_wp2
    go_loop [4, 5] (fun z i => ∃ (k : Nat) (y : Int), k ≤ s.size ∧ i = .int .i64 k ∧ z = .int .i64 y ∧ (-30 ≤ y ∧ y ≤ 30) ∧ Hid (y = sgSum (s.data.toList.take k))) (fun _ i => s.size - (intOf i).toNat)
    case atStart => exact ⟨0, 0, Nat.zero_le _, rfl, rfl, by omega, Lib.hid rfl⟩
    case round =>
      obtain ⟨k, y, hk, rfl, rfl, ⟨hy1, hy2⟩, HY⟩ := hrel
      by_cases hlt : k < s.size
      · have hl : k < s.data.toList.length := by simpa using hlt
        have HN : Hid (sgSum (s.data.toList.take (k + 1)) = y + sgnB s[k]) := Lib.hid (by rw [List.take_succ_eq_append_getElem hl, sgSum_append, sgSum_one, HY.out]; rfl)
        have HBd := Lib.hid (sgSum_bnd (s.data.toList.take (k + 1)))
        by_cases h97 : 97 ≤ s[k].toNat
        · have hsg : Hid (sgnB s[k] = 1) := Lib.hid (if_pos h97)
          have hd : decide ((97 : Int) ≤ (s[k].toNat : Int)) = true := decide_eq_true (by omega)
          go_wp2
          go_round
          case rel => 
            have h1 := HN.out
            have h2 := HBd.out
            rw [hsg.out] at h1
            rw [h1, List.length_take] at h2
            exact ⟨k + 1, y + 1, by omega, by go_num, by go_num, by omega, Lib.hid h1.symm⟩
          case measure => simp [intOf]; omega
        · have hsg : Hid (sgnB s[k] = -1) := Lib.hid (if_neg h97)
          have hd : decide ((97 : Int) ≤ (s[k].toNat : Int)) = false := decide_eq_false (by omega)
          go_wp2
          go_round
          case rel =>
            have h1 := HN.out
            have h2 := HBd.out
            rw [hsg.out] at h1
            rw [h1, List.length_take] at h2
            exact ⟨k + 1, y - 1, by omega, by go_num, by go_num, by omega, Lib.hid (by rw [h1]; omega)⟩
          case measure => simp [intOf]; omega
      · go_wp2
        go_ret2
        refine ⟨?_, HBX.out⟩
        have h1 := HY.out
        rw [List.take_of_length_le (by simp; omega)] at h1
        rw [HB.out, ← h1]; rfl

end Go.Proofs.Ytaaeiogdhmiaaaa

/- A loop over the bytes of a text whose body may write where it will, but for the text's own box. -/

namespace Go.Proofs.Ytaaeiogdhmiaaaa
open Go.RowKit Go.Shelf

attribute [local go_sem] Oper.semAt_some

set_option maxRecDepth 100000 in
set_option maxHeartbeats 1000000 in
theorem signs1_k (n : Nat) (hn : 1 ≤ n) (l Bs : Nat) (s : ByteArray) (hs : s.size ≤ 1048576) (Kp : World → World → Prop) (hKt : ∀ {A B C : World}, Kp A B → Kp B C → Kp A C) (hKr : ∀ A, Kp A A) (J : List UInt8 → World → Prop)
    (hY : ∀ pre x W, J pre W → pre ++ [x] <+: s.data.toList → YieldAt Fence.wide (n - 1) Try.prog l (encB x) W fun e W' => e = .returned (.bool true) ∧ J (pre ++ [x]) W' ∧ Kp W W')
    (W : World) (hBs : ∀ W', Kp W W' → W'.cell? ⟨Bs, 0, none⟩ = some (.string s)) (h0 : J [] W) :
    CallsIn Fence.wide n Try.prog 106 #[.func (.yield l) #[] #[], .pointer (some ⟨Bs, 0, none⟩)] W fun e W' => (∃ v, e = .returned v) ∧ J s.data.toList W' := by
  have hB0 := hBs W (hKr W)
  have HBs := Lib.hid hBs
  clear hBs
  refine callsIn_of_wp Try.func106 rfl trivial ?_ rfl
  simp only [Try.ntmps106, List.size_toArray, List.length_cons, List.length_nil, Nat.reduceAdd, Nat.reduceSub, Array.replicate_succ, Array.replicate_zero, List.push_toArray, List.append_toArray, List.nil_append, List.cons_append]
  gi_wp2
  gi_loopw [6] (fun i wr => ∃ k : Nat, k ≤ s.size ∧ i = .int .i64 k ∧ J (s.data.toList.take k) wr ∧ Kp W wr)
    (fun i _ => s.size - (intOf i).toNat)
  case atStart => exact ⟨0, Nat.zero_le _, rfl, h0, hKr W⟩
  case round =>
    obtain ⟨k, hk, rfl, hJs, hnx⟩ := hrel
    have hcx : wr.cell? ⟨Bs, 0, none⟩ = some (.string s) := HBs.out wr hnx
    by_cases hlt : k < s.size
    · have hl : k < s.data.toList.length := by simpa using hlt
      have HS : Hid (s.data.toList.take (k + 1) = s.data.toList.take k ++ [s[k]]) := take_snoc _ k hl
      obtain ⟨fn, tmps, assign, body, hy, hR⟩ := hY _ s[k] wr hJs (by rw [← HS.out]; exact List.take_prefix _ _)
      gi_wp2
      refine hR.mono ?_
      rintro e W3 ⟨rfl, hJ3, hk3⟩
      gi_wp2
      go_roundw
      case rel => exact ⟨k + 1, by omega, by simp, by rw [HS.out]; exact hJ3, hKt hnx hk3⟩
      case measure => simp [intOf]; omega
    · have HA : Hid (s.data.toList.take k = s.data.toList) := List.take_of_length_le (by simp; omega)
      gi_wp2
      go_end0
      exact ⟨⟨_, rfl⟩, by rw [← HA.out]; exact hJs⟩

/-- What a round keeps: the text's box, and the marks. -/
def KeepS (Bs : Nat) (N : Nat) (X Y : World) : Prop := Y.heap[Bs]? = X.heap[Bs]? ∧ KeepsFrom N X Y

/-- The law at the bytes of a text. -/
theorem range_signs {n : Nat} {g : Operand} {p : Tmp} {assign body : Code} {Q : Exit → Act → World → Prop} {a : Act} {w : World} {Bs : Nat} {s : ByteArray} (hn : 14 ≤ n) (hs : s.size ≤ 1048576)
    (hg : a.eval g = .func (.func 106) #[] #[.pointer (some ⟨Bs, 0, none⟩)])
    (hb : Boxed w Bs 9 (.string s))
    (I : List UInt8 → World → Prop) (hI : OwnFrom w.heap.size I) (h0 : I [] w) (a₁ : UInt8 → Act)
    (hassign : ∀ (l : Nat) (x : UInt8) (W : World) (K : Act → World → Prop), K (a₁ x) W →
      assign.wpIn (Fence.wide.inRound l) (n - 1 - 1) Try.prog (Exit.then K (fun _ _ _ => False)) { tmps := (#[p].zip (encB x)).foldl (fun t (q, v) => t.setIfInBounds q v) a.tmps, defers := [] } W)
    (hbody : ∀ (l : Nat) (pre : List UInt8) (x : UInt8) (W : World), I pre W → pre ++ [x] <+: s.data.toList →
      body.wpIn (Fence.wide.inRound l) (n - 1 - 1) Try.prog (goesOn w.heap.size (KeepS Bs) I (pre ++ [x]) W) (a₁ x) W)
    (hdone : ∀ (D : Nat) (W : World), w.heap.size ≤ D → I s.data.toList W → W.heap[D]? = some (.deferred (some [])) → Q .normal { a with defers := { target := .collected D, args := #[] } :: a.defers } W) :
    (Code.rangeFunc g #[p] assign body).wpIn Fence.wide n Try.prog Q a w :=
  range_law (by omega) hg (enters_of Try.func106 (by kernel_rfl) rfl) (fun _ => rfl) (KeepS Bs) (fun h k => ⟨k.1.trans h.1, h.2.trans k.2⟩)
    (fun N W l o o' hl hwl hW ho hwk => ⟨World.putObj_heap_other (fun e => by have := hb.lt; omega), KeepsFrom.of_grownBy (grownBy_putObj' W l o') (fun j e => by cases e; exact hl)⟩)
    (fun h => ⟨h.1, keepsFrom_mono h.2 (by omega)⟩)
    (fun l J V hV hlt hJ hY h0 => signs1_k (n - 1) (by omega) l Bs s hs (KeepS Bs V.heap.size) (fun h k => ⟨k.1.trans h.1, h.2.trans k.2⟩) (fun A => ⟨rfl, KeepsFrom.refl _ _⟩) J hY V
      (fun W' hk => by
        have h1 : Boxed V Bs 9 (.string s) := (hV.block _ hb.lt).trans hb
        have h2 : Boxed W' Bs 9 (.string s) := hk.1.trans h1
        exact h2.cell) h0) I hI h0 a₁ hassign hbody hdone

end Go.Proofs.Ytaaeiogdhmiaaaa

/- The contract of the program's BraidSum. -/

namespace Go.Proofs.Ytaaeiogdhmiaaaa
open Go.RowKit Go.Shelf

attribute [local go_sem] Oper.semAt_some

theorem sign_br (c : UInt8) (w : World) (h : brB c = true) :
    Calls Try.prog 83 #[.int .u8 (c.toNat : Int)] w fun e w' => e = .returned (.int .i64 (sgnB c)) ∧ w' = w := by
  have hb := (pl_yes c h).2.1
  by_cases h97 : 97 ≤ c.toNat
  · rw [if_pos h97] at hb
    have hs : Hid (sgnB c = 1) := by unfold sgnB; rw [if_pos h97]; exact Lib.hid rfl
    clear h h97
    go_enter Try.func83, Try.ntmps83
    go_wp2
    go_ret
    exact ⟨ret_int hs.out.symm, rfl⟩
  · rw [if_neg h97] at hb
    have hs : Hid (sgnB c = -1) := by unfold sgnB; rw [if_neg h97]; exact Lib.hid rfl
    clear h h97
    go_enter Try.func83, Try.ntmps83
    go_wp2
    go_ret
    exact ⟨ret_int hs.out.symm, rfl⟩

set_option maxRecDepth 100000 in
set_option maxHeartbeats 1000000 in
theorem iBraidSum_in (m : Nat) (hn : 30 ≤ m) (n : Int) (s : ByteArray) (w : World) (hs : s.size ≤ maxLen) :
    CallsIn Fence.wide m Try.prog 39 #[brV n s] w fun e w' => e = .returned (numR (braidB n s) (sgSum s.data.toList)) ∧ Below w.heap.size w w' := by
  obtain ⟨W, hW⟩ : ∃ W, w.alloc (.cells #[.int .i64 n, .string s] 26) = W := ⟨_, rfl⟩
  have HX := Lib.hid (oneBox hW)
  have HW := Lib.hid hW
  clear hW
  have hsz := HX.out.2.1
  obtain ⟨b, hb⟩ : ∃ b, braidB n s = b := ⟨_, rfl⟩
  have HA := Lib.hid (fun w => iBraidIn_any n s b w hs hb)
  have HB := Lib.hid hb
  clear hb
  obtain ⟨⟨c0, c1⟩, _, _⟩ := boxOf2 HX.out.2.2 (Below.refl _ W)
  refine callsIn_of_wp_marks Try.func39 rfl trivial ?_ rfl
  simp only [Try.ntmps39, List.size_toArray, List.length_cons, List.length_nil, Nat.reduceAdd, Nat.reduceSub, Array.replicate_succ, Array.replicate_zero, List.push_toArray, List.append_toArray, List.nil_append, List.cons_append]
  gi_wp2_with fail
  rw [HW.out]
  refine ⟨trivial, fun _ => by omega, ?_⟩
  refine (callsIn_wide.2 (HA.out W)).mono ?_
  rintro e w1 ⟨rfl, hb1⟩
  clear c0 c1
  obtain ⟨⟨c0, c1⟩, _, _⟩ := boxOf2 HX.out.2.2 hb1
  have HBX := Lib.hid (HX.out.1.trans (hb1.mono HX.out.1.size))
  have hws : w.heap.size + 1 ≤ w1.heap.size := by have := hb1.size; omega
  clear hb1
  cases b with
  | false =>
    gi_wp2
    exact ⟨numR (braidB n s) (sgSum s.data.toList), by rw [HB.out]; simp [results, Try.f39, go_sem, numR], rfl, HBX.out⟩
  | true =>
    obtain ⟨_, p3, pA⟩ := braid_all HB.out
    have HPA := Lib.hid pA
    clear pA
    have c1' := (World.cell?_alloc_lt w1 (.cells #[.int .i64 0] 3) ⟨w.heap.size, 1, none⟩ (by show w.heap.size < w1.heap.size; omega)).trans c1
    gi_wp2_with fail
    refine ⟨trivial, fun _ => by omega, ?_⟩
    refine (callsIn_wide.2 (signsOf_any s _)).mono ?_
    rintro e w2 ⟨rfl, rfl⟩
    have b1 := (Boxed.new w1 3 (.int .i64 0)).alloc (.cells #[.string s] 9)
    have b2 := Boxed.new (w1.alloc (.cells #[.int .i64 0] 3)) 9 (.string s)
    rw [World.size_alloc] at b2
    have hB0 : Below w.heap.size w ((w1.alloc (.cells #[.int .i64 0] 3)).alloc (.cells #[.string s] 9)) := (HBX.out.alloc (by omega) _).alloc (by simp; omega) _
    have hsz0 : ((w1.alloc (.cells #[.int .i64 0] 3)).alloc (.cells #[.string s] 9)).heap.size = w1.heap.size + 2 := by simp
    obtain ⟨W0, hW0⟩ : ∃ W0, ((w1.alloc (.cells #[.int .i64 0] 3)).alloc (.cells #[.string s] 9)) = W0 := ⟨_, rfl⟩
    simp only [World.size_alloc]
    rw [hW0] at b1 b2 hB0 hsz0 ⊢
    clear hW0
    obtain ⟨N, hN⟩ : ∃ N, w1.heap.size = N := ⟨_, rfl⟩
    rw [hN] at b1 b2 hsz0 ⊢
    have hwN : w.heap.size ≤ N := by omega
    clear c0 c1
    gi_wp2
    refine range_signs (by omega) (s := s) (by omega) rfl b2
      (fun pre X => Boxed X N 3 (.int .i64 (sgSum pre)) ∧ Below w.heap.size w X)
      (OwnFrom.and (Own.from (fun pre A B row hs hg hr => boxed_own N _ (fun _ : Unit => .int .i64 (sgSum pre)) () A B row hs hg hr) _) (ownFrom_below (Nat.le_refl _) hB0.size))
      ⟨b1, hB0⟩ ?a1 ?assign ?body ?done
    case assign =>
      intro l x W K hK
      gi_wp2
      exact hK
    case body =>
      rintro l pre x X ⟨hbx, hB⟩ hpre
      have hlet := (HPA.out x (prefix_mem hpre)).1
      have hplen := prefix_len hpre
      rw [show s.data.toList.length = s.size by simp] at hplen
      have hz := sgSum_bnd pre
      have hbc := hbx.cell
      have hfr := hbx.frozen
      have HS := Lib.hid (fun w => sign_br x w hlet)
      have hsg : -1 ≤ sgnB x ∧ sgnB x ≤ 1 := by unfold sgnB; split <;> omega
      have hst : sgSum (pre ++ [x]) = sgSum pre + sgnB x := by rw [sgSum_append, sgSum_one]
      obtain ⟨u, hu⟩ : ∃ u, sgnB x = u := ⟨_, rfl⟩
      obtain ⟨z, hzz⟩ : ∃ z, sgSum pre = z := ⟨_, rfl⟩
      rw [hu] at HS hsg hst
      rw [hzz] at hbc hz hst hbx
      obtain ⟨hz1, hz2⟩ := hz
      obtain ⟨hu1, hu2⟩ := hsg
      have hz1' : -(1048576 : Int) ≤ z := by omega
      have hz2' : z ≤ 1048576 := by omega
      have HST := Lib.hid hst
      have HBX' := Lib.hid hbx
      have hd : 1 ≤ m - 1 - 1 := by omega
      have hmx : Try.prog.follows .mixedOrders = true := by kernel_rfl
      clear hst hlet hpre hplen hu hzz hz1 hz2 hbx
      gi_wp2
      gi_region_with_o (refine ⟨trivial, ?_⟩; gi_at_call 83; refine (CallsIn.inRound l (callsIn_wide.2 (HS.out _))).mono ?_; rintro e w' ⟨rfl, rfl⟩)
      all_goals gi_wp2
      all_goals
        have hwrap : IntKind.i64.wrap (z + u) = z + u := IntWalk.i64_in _ (by omega)
        rw [hwrap]
        have hko : KeepsOthers X (X.setCell ⟨N, 0, none⟩ (.int .i64 (z + u))).drew := (KeepsOthers.setCell _ _ _).trans (KeepsOthers.drew _)
        refine ⟨hko.from _, ⟨Below.heap_setCell _ _ _ _ (by show N + 1 ≠ N; omega), hko.from _⟩, ?_, (hB.setCell (p := ⟨N, 0, none⟩) hwN _).drew⟩
        rw [HST.out]
        exact HBX'.out.set _
    case done =>
      rintro D X hD ⟨hbx, hB⟩ hK
      have hbc := hbx.cell
      clear hbx
      gi_wp2
      refine ⟨by simp, .inl ⟨_, _, rfl, run_takeDeferred hK, ?_⟩⟩
      exact ⟨numR (braidB n s) (sgSum s.data.toList), by rw [HB.out]; simp [results, Try.f39, go_sem, numR], rfl, hB.trans (belowK_b (w := w) (Nat.le_refl _) X D _ _ (by omega) hK rfl rfl)⟩

theorem iBraidSum_any (n : Int) (s : ByteArray) (w : World) (hs : s.size ≤ maxLen) :
    Calls Try.prog 39 #[brV n s] w fun e w' => e = .returned (numR (braidB n s) (sgSum s.data.toList)) ∧ Below w.heap.size w w' :=
  (callsIn_wide (n := 30)).1 (iBraidSum_in 30 (by omega) n s w hs)

end Go.Proofs.Ytaaeiogdhmiaaaa

/- The contract of the program's 'images': the four words that a letter of a braid puts. -/

namespace Go.Proofs.Ytaaeiogdhmiaaaa
open Go.RowKit Go.Shelf

/-- A block of cells, and of which type they are. -/
def Typed (w : World) (b : Nat) (t : TypeId) : Prop := ∃ c f, w.heap[b]? = some (.cells c t f)
theorem Typed.lt {w : World} {b : Nat} {t : TypeId} (h : Typed w b t) : b < w.heap.size := by
  obtain ⟨c, f, e⟩ := h
  exact (Array.getElem?_eq_some_iff.1 e).1
theorem Typed.ne {w : World} {b b' : Nat} {t t' : TypeId} (h : Typed w b t) (h' : Typed w b' t') (hne : t ≠ t') : b ≠ b' := by
  obtain ⟨c, f, e⟩ := h
  obtain ⟨c', f', e'⟩ := h'
  rintro rfl
  rw [e] at e'; cases e'; exact hne rfl
theorem Typed.kept {w w' : World} {b : Nat} {t : TypeId} {row : Option Nat} (h : Typed w b t) (hg : w.grownBy w' row) (hr : some b ≠ row) : Typed w' b t := by
  obtain ⟨c, f, e⟩ := h
  exact ⟨c, f, (hg.block b (Typed.lt ⟨c, f, e⟩) hr).trans e⟩
theorem cell_kept {w w' : World} {b j : Nat} {u : Value} {row : Option Nat} (h : w.cell? ⟨b, j, none⟩ = some u) (hl : b < w.heap.size) (hg : w.grownBy w' row) (hr : some b ≠ row) : w'.cell? ⟨b, j, none⟩ = some u :=
  (World.cell?_of_block (a := ⟨b, j, none⟩) (hg.block b hl hr)).trans h
theorem grownBy_setCellA (W : World) (a : Addr) (v : Value) : W.grownBy (W.setCell a v) (some a.block) :=
  ⟨rfl, rfl, rfl, (KeepsWalks.setCell W _ v).size, fun k _ hk => Below.heap_setCell _ _ _ k (fun e => hk (by rw [e]))⟩
/-- What a write has left alone: no block of the three kinds. -/
def Spares (w : World) (row : Option Nat) : Prop := ∀ b, some b = row → ¬ Typed w b 77 ∧ ¬ Typed w b 87 ∧ ¬ Typed w b 99
theorem Spares.none (w : World) : Spares w none := fun _ h => by cases h
/-- A word in memory, its block's type told. -/
def WordY (w : World) (v : Value) (L : List UInt8) : Prop :=
  ∃ g cap, v = .slice (some ⟨g, 0, none⟩) L.length cap ∧ L.length ≤ 60 ∧ Typed w g 77 ∧ ∀ j (h : j < L.length), w.cell? ⟨g, j, none⟩ = some (.int .u8 (L[j].toNat : Int))
theorem WordY.kept {w w' : World} {v : Value} {L : List UInt8} {row : Option Nat} (h : WordY w v L) (hg : w.grownBy w' row) (hr : ∀ b, some b = row → ¬ Typed w b 77) : WordY w' v L := by
  obtain ⟨g, cap, e, h1, h2, h3⟩ := h
  have hne : some g ≠ row := fun e => hr g e h2
  exact ⟨g, cap, e, h1, h2.kept hg hne, fun j hj => cell_kept (h3 j hj) h2.lt hg hne⟩
theorem WordY.at_ {w : World} {v : Value} {L : List UInt8} (h : WordY w v L) : WordAt 0 w v L := by
  obtain ⟨g, cap, e, h1, h2, h3⟩ := h
  exact ⟨g, cap, e, Nat.zero_le _, h2.lt, h1, h3⟩
/-- A row of words. -/
def RowW (w : World) (vs : List Value) (zs : List ByteArray) : Prop := vs.length = zs.length ∧ ∀ j, j < zs.length → WordY w (vs.getD j undef) (zs.getD j ByteArray.empty).data.toList
theorem RowW.kept {w w' : World} {vs : List Value} {zs : List ByteArray} {row : Option Nat} (h : RowW w vs zs) (hg : w.grownBy w' row) (hr : ∀ b, some b = row → ¬ Typed w b 77) : RowW w' vs zs := ⟨h.1, fun j hj => (h.2 j hj).kept hg hr⟩
theorem RowW.set {w : World} {vs : List Value} {zs : List ByteArray} (h : RowW w vs zs) (k : Nat) {v : Value} {z : ByteArray} (hv : WordY w v z.data.toList) : RowW w (vs.set k v) (zs.set k z) := by
  refine ⟨by simp [h.1], fun j hj => ?_⟩
  simp only [List.length_set] at hj
  have hjv : j < vs.length := by rw [h.1]; exact hj
  rw [List.getD_eq_getElem?_getD, List.getD_eq_getElem?_getD, List.getElem?_set, List.getElem?_set]
  by_cases e : k = j
  · subst e
    rw [if_pos rfl, if_pos rfl, if_pos hjv, if_pos hj]; exact hv
  · rw [if_neg e, if_neg e, ← List.getD_eq_getElem?_getD, ← List.getD_eq_getElem?_getD]; exact h.2 j hj
/-- Four words in memory, their blocks' types told. -/
def FourY (b : Nat) (w : World) (zs : List ByteArray) : Prop := Typed w b 87 ∧ ∀ j, j < zs.length → ∃ u, w.cell? ⟨b, j, none⟩ = some u ∧ WordY w u (zs.getD j ByteArray.empty).data.toList
theorem FourY.kept {b : Nat} {w w' : World} {zs : List ByteArray} {row : Option Nat} (h : FourY b w zs) (hg : w.grownBy w' row) (hr : Spares w row) : FourY b w' zs := by
  have hne : some b ≠ row := fun e => (hr b e).2.1 h.1
  refine ⟨h.1.kept hg hne, fun j hj => ?_⟩
  obtain ⟨u, h1, h2⟩ := h.2 j hj
  exact ⟨u, cell_kept h1 h.1.lt hg hne, h2.kept hg (fun b e => (hr b e).1)⟩
theorem FourY.four {b : Nat} {w : World} {zs : List ByteArray} (h : FourY b w zs) : FourAt b 0 w zs := by
  refine ⟨h.1.lt, fun j hj => ?_⟩
  obtain ⟨u, h1, h2⟩ := h.2 j hj
  have e : zs.getD j ByteArray.empty = zs[j] := by rw [List.getD_eq_getElem?_getD, List.getElem?_eq_getElem hj]; rfl
  rw [e] at h2
  exact ⟨u, h1, h2.at_⟩
theorem RowW.four {b : Nat} {w : World} {vs : List Value} {zs : List ByteArray} {n : Nat} (h : RowW w vs zs) (hc : ∀ j, j < n → w.cell? ⟨b, j, none⟩ = vs[j]?) (hn : vs.length = n) (hb : Typed w b 87) : FourY b w zs := by
  refine ⟨hb, fun j hj => ⟨vs.getD j undef, ?_, h.2 j hj⟩⟩
  have hjv : j < vs.length := by rw [h.1]; exact hj
  rw [hc j (by omega), List.getD_eq_getElem?_getD, List.getElem?_eq_getElem hjv]; rfl
theorem typed_row {w : World} {lo g n c : Nat} {e : TypeId} {vs : List Value} (h : w.ownsRow lo e 1 (.slice (some ⟨g, 0, none⟩) n c) n vs) : Typed w g e := by
  rcases h.2 with ⟨h1, _⟩ | ⟨g1, cap1, cur1, h1, _, h2, _⟩
  · cases h1
  · cases h1; exact ⟨_, _, h2⟩
theorem wordY_new {w : World} (L : List UInt8) (hl : L.length ≤ 60) (o : Obj) (ho : o = .cells (L.map fun c => Value.int .u8 (c.toNat : Int)).toArray 77) (n : Nat) (hn : n = L.length) :
    WordY (w.alloc o) (.slice (some ⟨w.heap.size, 0, none⟩) n n) L := by
  subst ho
  subst hn
  refine ⟨w.heap.size, L.length, rfl, hl, ⟨_, _, World.alloc_heap_new w _⟩, fun j hj => ?_⟩
  rw [World.cell?_alloc_at _ _ _ _ rfl]
  simp [hj]
theorem images_fin {w wr W4 : World} {p : Nat} {vs : List Value} {o1 o2 : Obj} {u1 u2 : Value} {z1 z2 : ByteArray} (hvl : vs.length = 4) (HR : RowW wr vs abcd)
    (HO : wr.ownsRow w.heap.size 87 1 (.slice (some ⟨w.heap.size, 0, none⟩) 4 4) 4 vs) (HB : Below w.heap.size w wr)
    (hW : W4 = (((wr.setCell ⟨w.heap.size, p, none⟩ u1).setCell ⟨w.heap.size, p + 1, none⟩ u2).alloc o1).alloc o2)
    (h1 : WordY W4 u1 z1.data.toList) (h2 : WordY W4 u2 z2.data.toList) :
    FourY w.heap.size W4 ((abcd.set p z1).set (p + 1) z2) ∧ Below w.heap.size w W4 := by
  have hbl : w.heap.size < wr.heap.size := (ownsRow_cap HO).2.2.2
  have ho2 := (HO.stored p u1).1
  have ho4 : W4.ownsRow w.heap.size 87 1 (.slice (some ⟨w.heap.size, 0, none⟩) 4 4) 4 ((vs.set p u1).set (p + 1) u2) := by
    rw [hW]; exact ((ho2.stored (p + 1) u2).1.alloc _).alloc _
  have hb1 : Below w.heap.size w ((wr.setCell ⟨w.heap.size, p, none⟩ u1).setCell ⟨w.heap.size, p + 1, none⟩ u2) := (HB.setCell (p := ⟨w.heap.size, p, none⟩) (Nat.le_refl _) _).setCell (p := ⟨w.heap.size, p + 1, none⟩) (Nat.le_refl _) _
  have hb4 : Below w.heap.size w W4 := by
    rw [hW]; exact (hb1.alloc (by simp; omega) _).alloc (by simp; omega) _
  have hr4 : RowW W4 vs abcd := by
    rw [hW]
    have h := (HR.kept (grownBy_setCellA wr ⟨w.heap.size, p, none⟩ u1) (fun b e h => by cases e; exact Typed.ne h (typed_row HO) (by decide) rfl)).kept (grownBy_setCellA _ ⟨w.heap.size, p + 1, none⟩ u2) (fun b e h => by cases e; exact Typed.ne h (typed_row ho2) (by decide) rfl)
    exact (h.kept (World.grownBy_alloc _ o1 none) (fun _ e => by cases e)).kept (World.grownBy_alloc _ o2 none) (fun _ e => by cases e)
  have hr5 := (hr4.set p h1).set (p + 1) h2
  exact ⟨hr5.four (n := 4) (fun j hj => ho4.cellAt j (by omega)) (by simp [hvl]) (typed_row ho4), hb4⟩

theorem gen_nat : ∀ k ∈ ([0, 1, 2, 3] : List Nat), (genC k).toNat = 97 + k ∧ (turnB (genC k)).toNat = 65 + k ∧ invB (genC k) = turnB (genC k) := by decide +kernel
theorem genC_nat {k : Nat} (h : k < 4) : (genC k).toNat = 97 + k ∧ (turnB (genC k)).toNat = 65 + k ∧ invB (genC k) = turnB (genC k) := gen_nat k (by simp; omega)
theorem abcd_get {k : Nat} (h : k < 4) : (abcd.getD k ByteArray.empty).data.toList = [genC k] := by
  have ht : ∀ k ∈ ([0, 1, 2, 3] : List Nat), (abcd.getD k ByteArray.empty).data.toList = [genC k] := by decide +kernel
  exact ht k (by simp; omega)
theorem inverse_gen (p : Nat) (hp : p < 4) (x : Int) (hx : x = 97 + (p : Int)) (w : World) :
    Calls Try.prog 75 #[.int .u8 x] w fun e w' => e = .returned (.int .u8 (65 + (p : Int))) ∧ w' = w := by
  obtain ⟨h1, h2, h3⟩ := genC_nat hp
  have h := inverse_any (genC p) w
  rw [h3, h1, h2] at h
  rw [hx]
  exact h

set_option maxRecDepth 100000 in
set_option maxHeartbeats 4000000 in
theorem images_any (c : UInt8) (w : World) (hc : brB c = true) :
    Calls Try.prog 131 #[.int .u8 (c.toNat : Int)] w fun e w' => e = .returned (.slice (some ⟨w.heap.size, 0, none⟩) 4 4) ∧ FourY w.heap.size w' (bImg c) ∧ Below w.heap.size w w' := by
  have hmk : ∀ w, (Instr.makeSlice 99 (.int .i64 4) (.int .i64 4)).run Try.prog w = .ok (.slice (some ⟨w.heap.size, 0, none⟩) 4 4) (w.alloc (.cells #[.slice none 0 0, .slice none 0 0, .slice none 0 0, .slice none 0 0] 87)) := fun _ => by kernel_rfl
  have hp3 := plN_lt c hc
  have HPL := Lib.hid (fun w => (show Calls Try.prog 71 #[.int .u8 (c.toNat : Int)] w fun e w' => e = .returned (.int .i64 (plN c : Int)) ∧ w' = w from by rw [← (pl_yes c hc).1]; exact place_any c w))
  have HSG := Lib.hid (fun w => sign_br c w hc)
  have HBI : Hid (bImg c = if 97 ≤ c.toNat then (abcd.set (plN c) { data := #[genC (plN c), genC (plN c + 1), turnB (genC (plN c))] }).set (plN c + 1) { data := #[genC (plN c)] } else (abcd.set (plN c) { data := #[genC (plN c + 1)] }).set (plN c + 1) { data := #[turnB (genC (plN c + 1)), genC (plN c), genC (plN c + 1)] }) := Lib.hid rfl
  obtain ⟨p, hp⟩ : ∃ p, plN c = p := ⟨_, rfl⟩
  rw [hp] at hp3 HPL HBI
  have hrow0 : (w.alloc (.cells #[.slice none 0 0, .slice none 0 0, .slice none 0 0, .slice none 0 0] 87)).ownsRow w.heap.size 87 1 (.slice (some ⟨w.heap.size, 0, none⟩) 4 4) 4 [.slice none 0 0, .slice none 0 0, .slice none 0 0, .slice none 0 0] :=
    ⟨rfl, .inr ⟨_, 4, #[.slice none 0 0, .slice none 0 0, .slice none 0 0, .slice none 0 0], rfl, Nat.le_refl _, heap_alloc_new w _, Nat.le_refl _, by decide, rfl, rfl⟩⟩
  have HR0 := Lib.hid hrow0
  have HB0 : Hid (Below w.heap.size w (w.alloc (.cells #[.slice none 0 0, .slice none 0 0, .slice none 0 0, .slice none 0 0] 87))) := Lib.hid ((Below.refl _ w).alloc (Nat.le_refl _) _)
  clear hrow0 hp hc
  go_enter Try.func131, Try.ntmps131
  go_wp2
  go_loopw [4, 11] (fun u i wr => ∃ (k : Nat) (u' : Value) (vs : List Value), k ≤ 4 ∧ i = .int .i64 (k : Int) ∧ u = u' ∧ vs.length = 4 ∧ wr.ownsRow w.heap.size 87 1 (.slice (some ⟨w.heap.size, 0, none⟩) 4 4) 4 vs ∧ Hid (∀ j, j < k → WordY wr (vs.getD j undef) [genC j]) ∧ Below w.heap.size w wr) (fun _ i _ => 4 - (intOf i).toNat)
  case atStart => exact ⟨0, _, _, by omega, rfl, rfl, rfl, HR0.out, Lib.hid (fun j hj => absurd hj (Nat.not_lt_zero _)), HB0.out⟩
  case round =>
    obtain ⟨k, u', vs, hk, rfl, rfl, hvl, hown, HW, hB⟩ := hrel
    have hbl : w.heap.size < wr.heap.size := (ownsRow_cap hown).2.2.2
    by_cases hlt : k < 4
    · have hwu : IntKind.u8.wrap (97 + (k : Int)) = 97 + (k : Int) := IntWalk.u8_in _ (by omega)
      have hcx : ∃ y, wr.cell? ⟨w.heap.size, k, none⟩ = some y := by
        rw [hown.cellAt k (by omega)]; exact ⟨_, List.getElem?_eq_getElem (by omega)⟩
      obtain ⟨y, hcx⟩ := hcx
      have hfx := hown.frozenAt k
      have hnv : WordY ((wr.setCell ⟨w.heap.size, k, none⟩ (.slice (some ⟨wr.heap.size, 0, none⟩) 1 1)).alloc (.cells #[.int .u8 (97 + (k : Int))] 77)) (.slice (some ⟨wr.heap.size, 0, none⟩) 1 1) [genC k] := by
        have := wordY_new (w := wr.setCell ⟨w.heap.size, k, none⟩ (.slice (some ⟨wr.heap.size, 0, none⟩) 1 1)) [genC k] (by simp) (.cells #[.int .u8 (97 + (k : Int))] 77) (by simp [(genC_nat hlt).1]) 1 rfl
        simpa using this
      have HNV := Lib.hid hnv
      have HO := Lib.hid hown
      have HB := Lib.hid hB
      clear hnv hown hB
      go_wp2
      go_roundw
      case rel =>
        refine ⟨k + 1, _, vs.set k (.slice (some ⟨wr.heap.size, 0, none⟩) 1 1), by omega, by go_num, rfl, by simp [hvl], (HO.out.stored k (.slice (some ⟨wr.heap.size, 0, none⟩) 1 1)).1.alloc _, Lib.hid fun j hj => ?_, (HB.out.setCell (p := ⟨w.heap.size, k, none⟩) (Nat.le_refl _) _).alloc (by simp; omega) _⟩
        rw [List.getD_eq_getElem?_getD, List.getElem?_set]
        by_cases e : k = j
        · subst e
          rw [if_pos rfl, if_pos (by omega)]; exact HNV.out
        · rw [if_neg e, ← List.getD_eq_getElem?_getD]
          exact ((HW.out j (by omega)).kept (grownBy_setCellA wr ⟨w.heap.size, k, none⟩ _) (fun b e h => by cases e; exact Typed.ne h (typed_row HO.out) (by decide) rfl)).kept (World.grownBy_alloc _ _ none) (fun _ e => by cases e)
      case measure => simp [intOf]; omega
    · obtain rfl : k = 4 := by omega
      have hrw : RowW wr vs abcd := ⟨hvl, fun j hj => by
        have hj4 : j < 4 := hj
        rw [abcd_get hj4]
        exact HW.out j hj4⟩
      have HRW := Lib.hid hrw
      have HO := Lib.hid hown
      have HB := Lib.hid hB
      have hcx : ∃ y, wr.cell? ⟨w.heap.size, p, none⟩ = some y := by
        rw [hown.cellAt p (by omega)]; exact ⟨_, List.getElem?_eq_getElem (by omega)⟩
      obtain ⟨y, hcx⟩ := hcx
      have hfx := hown.frozenAt p
      have hcx2 : ∃ y, wr.cell? ⟨w.heap.size, p + 1, none⟩ = some y := by
        rw [hown.cellAt (p + 1) (by omega)]; exact ⟨_, List.getElem?_eq_getElem (by omega)⟩
      obtain ⟨y2, hcx2⟩ := hcx2
      have hfx2 := hown.frozenAt (p + 1)
      clear hrw hown hB
      have hwa : IntKind.u8.wrap (97 + (p : Int)) = 97 + (p : Int) := IntWalk.u8_in _ (by omega)
      have hwb : IntKind.u8.wrap (97 + (p : Int) + 1) = 97 + (p : Int) + 1 := IntWalk.u8_in _ (by omega)
      go_wp2_with fail
      refine (HPL.out _).mono ?_
      rintro e w2 ⟨rfl, rfl⟩
      go_wp2_with fail
      refine (HSG.out _).mono ?_
      rintro e w3 ⟨rfl, rfl⟩
      by_cases h97 : 97 ≤ c.toNat
      · have hsg : sgnB c = 1 := if_pos h97
        rw [hsg]
        go_wp2_with fail
        refine (inverse_gen p (by omega) _ rfl _).mono ?_
        rintro e w4 ⟨rfl, rfl⟩
        go_wp2_with fail
        have hg0 := genC_nat (k := p) (by omega)
        have hg1 := genC_nat (k := p + 1) (by omega)
        have ht2 := wordY_new (w := ((w4.setCell ⟨w.heap.size, p, none⟩ (.slice (some ⟨w4.heap.size, 0, none⟩) 3 3)).setCell ⟨w.heap.size, p + 1, none⟩ (.slice (some ⟨w4.heap.size + 1, 0, none⟩) 1 1)).alloc (.cells #[.int .u8 (97 + (p : Int)), .int .u8 (97 + (p : Int) + 1), .int .u8 (65 + (p : Int))] 77)) [genC p] (by simp) (.cells #[.int .u8 (97 + (p : Int))] 77) (by simp [hg0.1]) 1 rfl
        have ht1 := wordY_new (w := (w4.setCell ⟨w.heap.size, p, none⟩ (.slice (some ⟨w4.heap.size, 0, none⟩) 3 3)).setCell ⟨w.heap.size, p + 1, none⟩ (.slice (some ⟨w4.heap.size + 1, 0, none⟩) 1 1)) [genC p, genC (p + 1), turnB (genC p)] (by simp) (.cells #[.int .u8 (97 + (p : Int)), .int .u8 (97 + (p : Int) + 1), .int .u8 (65 + (p : Int))] 77) (by simp [hg0.1, hg0.2.1, hg1.1]; omega) 3 rfl
        simp only [World.size_alloc, World.size_setCell] at ht1 ht2
        have hfin := images_fin (z1 := { data := #[genC p, genC (p + 1), turnB (genC p)] }) (z2 := { data := #[genC p] }) hvl HRW.out HO.out HB.out rfl (ht1.kept (World.grownBy_alloc _ (.cells #[.int .u8 (97 + (p : Int))] 77) none) (fun _ e => by cases e)) ht2
        refine bodyPost_ret (v := .slice (some ⟨w.heap.size, 0, none⟩) 4 4) ?_ rfl ⟨rfl, ?_⟩
        · simp [results, Try.results131, go_sem]
        rw [HBI.out, if_pos h97]
        exact hfin
      · have hsg : sgnB c = -1 := if_neg h97
        rw [hsg]
        go_wp2_with fail
        refine (inverse_gen (p + 1) (by omega) _ (by omega) _).mono ?_
        rintro e w4 ⟨rfl, rfl⟩
        go_wp2_with fail
        have hg0 := genC_nat (k := p) (by omega)
        have hg1 := genC_nat (k := p + 1) (by omega)
        have ht2 := wordY_new (w := ((w3.setCell ⟨w.heap.size, p, none⟩ (.slice (some ⟨w3.heap.size, 0, none⟩) 1 1)).setCell ⟨w.heap.size, p + 1, none⟩ (.slice (some ⟨w3.heap.size + 1, 0, none⟩) 3 3)).alloc (.cells #[.int .u8 (97 + (p : Int) + 1)] 77)) [turnB (genC (p + 1)), genC p, genC (p + 1)] (by simp) (.cells #[.int .u8 (65 + ((p : Int) + 1)), .int .u8 (97 + (p : Int)), .int .u8 (97 + (p : Int) + 1)] 77) (by simp [hg0.1, hg1.2.1, hg1.1]; omega) 3 rfl
        have ht1 := wordY_new (w := (w3.setCell ⟨w.heap.size, p, none⟩ (.slice (some ⟨w3.heap.size, 0, none⟩) 1 1)).setCell ⟨w.heap.size, p + 1, none⟩ (.slice (some ⟨w3.heap.size + 1, 0, none⟩) 3 3)) [genC (p + 1)] (by simp) (.cells #[.int .u8 (97 + (p : Int) + 1)] 77) (by simp [hg1.1]; omega) 1 rfl
        simp only [World.size_alloc, World.size_setCell] at ht1 ht2
        have hfin := images_fin (z1 := { data := #[genC (p + 1)] }) (z2 := { data := #[turnB (genC (p + 1)), genC p, genC (p + 1)] }) hvl HRW.out HO.out HB.out rfl (ht1.kept (World.grownBy_alloc _ (.cells #[.int .u8 (65 + ((p : Int) + 1)), .int .u8 (97 + (p : Int)), .int .u8 (97 + (p : Int) + 1)] 77) none) (fun _ e => by cases e)) ht2
        refine bodyPost_ret (v := .slice (some ⟨w.heap.size, 0, none⟩) 4 4) ?_ rfl ⟨rfl, ?_⟩
        · simp [results, Try.results131, go_sem]
        rw [HBI.out, if_neg h97]
        exact hfin

end Go.Proofs.Ytaaeiogdhmiaaaa

/- The contracts of the program's 'action' and 'actions'. -/

namespace Go.Proofs.Ytaaeiogdhmiaaaa
open Go.RowKit Go.Shelf

attribute [local go_sem] Oper.semAt_some

theorem grown_of_below {w w' : World} (h : Below w.heap.size w w') : w.grownBy w' none := ⟨h.os, h.tape, h.output, h.size, fun k hk _ => h.block k hk⟩
/-- What a letter of a braid does, in memory. -/
def ActY (w : World) (v : Value) (c : UInt8) : Prop :=
  ∃ bx gi, v = .func (.func 132) #[] #[.pointer (some ⟨bx, 0, none⟩)] ∧ Boxed w bx 99 (.slice (some ⟨gi, 0, none⟩) 4 4) ∧ FourY gi w (bImg c)
theorem boxed_typed {w : World} {b : Nat} {t : TypeId} {v : Value} (h : Boxed w b t v) : Typed w b t := ⟨_, _, h⟩
theorem ActY.kept {w w' : World} {v : Value} {c : UInt8} {row : Option Nat} (h : ActY w v c) (hg : w.grownBy w' row) (hr : Spares w row) : ActY w' v c := by
  obtain ⟨bx, gi, e, h1, h2⟩ := h
  exact ⟨bx, gi, e, h1.kept hg (fun e => (hr bx e).2.2 (boxed_typed h1)), h2.kept hg hr⟩
theorem ActY.below {w w' : World} {v : Value} {c : UInt8} (h : ActY w v c) (hb : Below w.heap.size w w') : ActY w' v c := h.kept (grown_of_below hb) (Spares.none w)
theorem spares_other {w : World} {b : Nat} {t : TypeId} (h : Typed w b t) (h1 : t ≠ 77) (h2 : t ≠ 87) (h3 : t ≠ 99) : Spares w (some b) := fun b' e => by
  cases e
  exact ⟨fun k => Typed.ne h k h1 rfl, fun k => Typed.ne h k h2 rfl, fun k => Typed.ne h k h3 rfl⟩
theorem spares_noncell {w : World} {row : Option Nat} (h : ∀ r, row = some r → ∃ o : Obj, w.heap[r]? = some o ∧ o.isCells = false) : Spares w row := fun b e => by
  obtain ⟨o, ho, hc⟩ := h b e.symm
  have hn : ∀ t, ¬ Typed w b t := fun t ⟨c, f, e⟩ => by rw [ho] at e; cases e; cases hc
  exact ⟨hn _, hn _, hn _⟩

set_option maxRecDepth 100000 in
set_option maxHeartbeats 1000000 in
theorem action_any (c : UInt8) (w : World) (hc : brB c = true) :
    Calls Try.prog 114 #[.int .u8 (c.toNat : Int)] w fun e w' => ∃ v, e = .returned v ∧ ActY w' v c ∧ Below w.heap.size w w' := by
  have hmf : ∀ (fn : Fn) (first cap : Array Value) (w : World), (Instr.makeFunc fn first cap).run Try.prog w = .ok (.func fn first cap) w := fun _ _ _ _ => rfl
  have hi := images_any c w hc
  have HI := Lib.hid hi
  clear hi hc
  go_enter Try.func114, Try.ntmps114
  go_wp2_with fail
  refine HI.out.mono ?_
  rintro e w1 ⟨rfl, hf, hb⟩
  have HF := Lib.hid hf
  clear hf
  go_wp2
  refine bodyPost_ret (v := .func (.func 132) #[] #[.pointer (some ⟨w1.heap.size, 0, none⟩)]) ?_ rfl ⟨_, rfl, ⟨w1.heap.size, w.heap.size, rfl, Boxed.new w1 _ _, HF.out.kept (World.grownBy_alloc _ _ none) (Spares.none _)⟩, hb.alloc hb.size _⟩
  simp [results, Try.results114, go_sem]

/-- The actions that the loop has gathered. -/
def ActsIn (N lo : Nat) (pre : List UInt8) (X : World) : Prop :=
  ∃ vs : List Value, vs.length = pre.length ∧ (∃ v, Boxed X N 91 v ∧ X.ownsRow lo 130 1 v vs.length vs ∧ True) ∧ ∀ j, j < pre.length → ActY X (vs.getD j undef) (pre.getD j 0)
theorem ActsIn.own (N lo : Nat) : Own (ActsIn N lo) := by
  rintro s X Y row ⟨vs, h1, h2, h3⟩ hg hrow
  exact ⟨vs, h1, holdsRow_own lo N _ 130 1 (fun _ : Unit => vs.length) (fun _ => vs) (fun _ _ => True) () X Y row h2 hg hrow, fun j hj => (h3 j hj).kept hg (spares_noncell hrow)⟩

theorem infoAct : (Try.prog.info? 130).map (fun i => (i.zero, i.size, i.bytes)) = some (some .nilFunc, 1, 8) := by kernel_rfl

abbrev AcT : TypeId := 130
theorem typed_own {w : World} {lo n j : Nat} {e : TypeId} {v : Value} {vs : List Value} (h : w.ownsRow lo e 1 v n vs) (hj : v.ownBlock = some j) : Typed w j e ∧ lo ≤ j := by
  rcases h.2 with ⟨rfl, _⟩ | ⟨g1, cap1, cur1, rfl, h1, h2, _⟩
  · cases hj
  · simp [Value.ownBlock] at hj
    subst hj
    exact ⟨⟨_, _, h2⟩, h1⟩
theorem acts_round {N M lo : Nat} {w X Y X1 w' : World} {v fv : Value} {vs : List Value} {pre : List UInt8} {x : UInt8} {g' cap' : Nat} (hXY : KeepsOthers X Y) (hblk : Y.heap[N + 1]? = X.heap[N + 1]?) (hYs : N + 2 ≤ Y.heap.size) (hM : M ≤ Y.heap.size)
    (hB : Below lo w Y) (hlo : lo ≤ N) (hvl : vs.length = pre.length) (hbY : Boxed Y N 91 v) (hrow : Y.ownsRow (N + 2) AcT 1 v vs.length vs) (hvs : ∀ j, j < pre.length → ActY Y (vs.getD j undef) (pre.getD j 0))
    (hact : ActY X1 fv x) (hb1 : Below Y.heap.size Y X1) (r1 : w'.ownsRow (N + 2) AcT 1 (.slice (some ⟨g', 0, none⟩) (vs.length + 1) cap') (vs.length + 1) (vs ++ [fv]))
    (r2 : (X1.alloc (.cells #[fv] AcT)).grownBy w' v.ownBlock) :
    KeepsFrom M X (w'.setCell ⟨N, 0, none⟩ (.slice (some ⟨g', 0, none⟩) (vs.length + 1) cap')) ∧ KeepS (N + 1) M X (w'.setCell ⟨N, 0, none⟩ (.slice (some ⟨g', 0, none⟩) (vs.length + 1) cap')) ∧ ActsIn N (N + 2) (pre ++ [x]) (w'.setCell ⟨N, 0, none⟩ (.slice (some ⟨g', 0, none⟩) (vs.length + 1) cap')) ∧ Below lo w (w'.setCell ⟨N, 0, none⟩ (.slice (some ⟨g', 0, none⟩) (vs.length + 1) cap')) ∧ M ≤ (w'.setCell ⟨N, 0, none⟩ (.slice (some ⟨g', 0, none⟩) (vs.length + 1) cap')).heap.size := by
  obtain ⟨u, hu⟩ : ∃ u, (Value.slice (some ⟨g', 0, none⟩) (vs.length + 1) cap') = u := ⟨_, rfl⟩
  obtain ⟨Z, hZ⟩ : ∃ Z, X1.alloc (.cells #[fv] AcT) = Z := ⟨_, rfl⟩
  have hs1 := hb1.size
  have hloY : lo ≤ Y.heap.size := by omega
  have hZs : Z.heap.size = X1.heap.size + 1 := by rw [← hZ]; simp
  have hbel : Below Y.heap.size Y Z := by rw [← hZ]; exact hb1.alloc hb1.size _
  have hrowZ : Z.ownsRow (N + 2) AcT 1 v vs.length vs := hrow.kept (grown_of_below hbel) (by cases v.ownBlock <;> simp)
  have hbZ : Boxed Z N 91 v := hbY.kept (grown_of_below hbel) (by simp)
  have hactZ : ActY Z fv x := by rw [← hZ]; exact hact.kept (World.grownBy_alloc _ _ none) (Spares.none _)
  rw [hZ] at r2
  have hspZ : Spares Z v.ownBlock := fun b e => spares_other (typed_own hrowZ e.symm).1 (by decide) (by decide) (by decide) b rfl
  have hbw : Boxed w' N 91 v := hbZ.kept r2 (hbZ.not_row (by decide) hrowZ)
  have hspw : Spares w' (some N) := spares_other (boxed_typed hbw) (by decide) (by decide) (by decide)
  have hall : ∀ fv x, ActY Z fv x → ActY (w'.setCell ⟨N, 0, none⟩ u) fv x := fun fv x h => (h.kept r2 hspZ).kept (grownBy_setCell' w' N u) hspw
  have hko : KeepsOthers X (w'.setCell ⟨N, 0, none⟩ u) := by
    refine hXY.trans (KeepsOthers.trans ?_ (KeepsOthers.setCell _ _ _))
    refine KeepsOthers.trans (B := Z) ⟨hbel.size, fun k o hk _ => (hbel.block k (Array.getElem?_eq_some_iff.1 hk).1).trans hk⟩ (KeepsOthers.of_grownBy r2 fun j o ej hj => ?_)
    obtain ⟨⟨c, f, ht⟩, _⟩ := typed_own hrowZ ej
    rw [ht] at hj; cases hj; rfl
  have hb5 : (w'.setCell ⟨N, 0, none⟩ u).heap[N + 1]? = X.heap[N + 1]? := by
    rw [Below.heap_setCell _ _ _ _ (by show N + 1 ≠ N; omega), r2.block (N + 1) (by omega) (fun e => by have := (typed_own hrowZ e.symm).2; omega), hbel.block (N + 1) (by omega), hblk]
  have hB5 : Below lo w (w'.setCell ⟨N, 0, none⟩ u) := ((hB.trans (hbel.mono hloY)).grown r2 (by omega) (fun j ej => by have := (typed_own hrowZ ej).2; omega)).setCell (p := ⟨N, 0, none⟩) hlo _
  refine ⟨by rw [hu]; exact hko.from _, by rw [hu]; exact ⟨hb5, hko.from _⟩, ⟨vs ++ [fv], by simp [hvl], ⟨_, hbw.set _, ?_, trivial⟩, fun j hj => ?_⟩, by rw [hu]; exact hB5, by have := hko.size; have := hXY.size; rw [hu]; have h5 := (KeepsWalks.setCell w' ⟨N, 0, none⟩ u).size; have := r2.size; omega⟩
  · have := r1.kept (grownBy_setCell' w' N (.slice (some ⟨g', 0, none⟩) (vs.length + 1) cap')) (.inr (hbw.not_row (by decide) r1).symm)
    rw [List.length_append]
    exact this
  · rw [hu]
    rw [List.length_append, List.length_singleton] at hj
    by_cases h : j < pre.length
    · rw [List.getD_eq_getElem?_getD, List.getD_eq_getElem?_getD, List.getElem?_append_left (by omega), List.getElem?_append_left h, ← List.getD_eq_getElem?_getD, ← List.getD_eq_getElem?_getD]
      exact hall _ _ ((hvs j h).kept (grown_of_below hbel) (Spares.none _))
    · obtain rfl : j = pre.length := by omega
      rw [List.getD_eq_getElem?_getD, List.getD_eq_getElem?_getD, List.getElem?_append_right (by omega), List.getElem?_append_right (by omega), hvl, Nat.sub_self]
      exact hall _ _ hactZ

set_option maxRecDepth 100000 in
set_option maxHeartbeats 2000000 in
theorem actions_in (m : Nat) (hn : 30 ≤ m) (n : Int) (s : ByteArray) (w : World) (hbr : braidB n s = true) :
    CallsIn Fence.wide m Try.prog 79 #[brV n s] w fun e w' => ∃ v vs, e = .returned v ∧ vs.length = s.data.toList.length ∧ w'.ownsRow w.heap.size 130 1 v vs.length vs ∧ (∀ j, j < s.data.toList.length → ActY w' (vs.getD j undef) (s.data.toList.getD j 0)) ∧ Below w.heap.size w w' := by
  obtain ⟨W, hW⟩ : ∃ W, w.alloc (.cells #[.int .i64 n, .string s] 26) = W := ⟨_, rfl⟩
  have HX := Lib.hid (oneBox hW)
  have HW := Lib.hid hW
  clear hW
  have hsz := HX.out.2.1
  obtain ⟨⟨c0, c1⟩, _, _⟩ := boxOf2 HX.out.2.2 (Below.refl _ W)
  have HBX := Lib.hid HX.out.1
  obtain ⟨_, p3, pA⟩ := braid_all hbr
  have HPA := Lib.hid pA
  clear pA hbr
  have c1' := (World.cell?_alloc_lt W (.cells #[.slice none 0 0] 91) ⟨w.heap.size, 1, none⟩ (by show w.heap.size < W.heap.size; omega)).trans c1
  refine callsIn_of_wp_marks Try.func79 rfl trivial ?_ rfl
  simp only [Try.ntmps79, List.size_toArray, List.length_cons, List.length_nil, Nat.reduceAdd, Nat.reduceSub, Array.replicate_succ, Array.replicate_zero, List.push_toArray, List.append_toArray, List.nil_append, List.cons_append]
  gi_wp2_with fail
  rw [HW.out]
  refine ⟨trivial, fun _ => by omega, ?_⟩
  refine (callsIn_wide.2 (signsOf_any s _)).mono ?_
  rintro e w2 ⟨rfl, rfl⟩
  have b1 := (Boxed.new W 91 (.slice none 0 0)).alloc (.cells #[.string s] 9)
  have b2 := Boxed.new (W.alloc (.cells #[.slice none 0 0] 91)) 9 (.string s)
  rw [World.size_alloc] at b2
  have hB0 : Below w.heap.size w ((W.alloc (.cells #[.slice none 0 0] 91)).alloc (.cells #[.string s] 9)) := (HBX.out.alloc (by omega) _).alloc (by simp; omega) _
  have hsz0 : ((W.alloc (.cells #[.slice none 0 0] 91)).alloc (.cells #[.string s] 9)).heap.size = W.heap.size + 2 := by simp
  obtain ⟨W0, hW0⟩ : ∃ W0, ((W.alloc (.cells #[.slice none 0 0] 91)).alloc (.cells #[.string s] 9)) = W0 := ⟨_, rfl⟩
  simp only [World.size_alloc]
  rw [hW0] at b1 b2 hB0 hsz0 ⊢
  clear hW0
  obtain ⟨N, hN⟩ : ∃ N, w.heap.size + 1 = N := ⟨_, rfl⟩
  rw [hsz] at b1 b2 hsz0 ⊢
  rw [hN] at b1 b2 hsz0 ⊢
  have hwN : w.heap.size ≤ N := by omega
  clear c0 c1 c1' hN
  obtain ⟨i0, hi0, hz0, hz1, hz2⟩ := info_parts infoAct
  gi_wp2
  refine range_signs (by omega) (s := s) (by omega) rfl b2
    (fun pre X => ActsIn N (N + 2) pre X ∧ Below w.heap.size w X ∧ W0.heap.size ≤ X.heap.size)
    (OwnFrom.and (Own.from (ActsIn.own N (N + 2)) _) (OwnFrom.and (ownFrom_below (Nat.le_refl _) hB0.size) (fun s X Y row hs hgr hr => Nat.le_trans hs hgr.size)))
    ⟨⟨[], rfl, ⟨_, b1, World.ownsRow_nil _ _ _ _, trivial⟩, fun j hj => absurd hj (Nat.not_lt_zero _)⟩, hB0, Nat.le_refl _⟩ ?a1 ?assign ?body ?done
  case assign =>
    intro l x W K hK
    gi_wp2
    exact hK
  case body =>
    rintro l pre x X ⟨⟨vs, hvl, ⟨v, hbx, hrow, _⟩, hvs⟩, hB, hXs⟩ hpre
    have hlet := (HPA.out x (prefix_mem hpre)).1
    have hplen := prefix_len hpre
    rw [show s.data.toList.length = s.size by simp] at hplen
    have HA := Lib.hid (fun w => action_any x w hlet)
    have hd : 1 ≤ m - 1 - 1 := by omega
    have hvl60 : vs.length ≤ 61 := by omega
    have HVS := Lib.hid hvs
    have HVL := Lib.hid hvl
    clear hvs hlet hpre hvl
    gi_wp2
    refine wpIn_region_any (by kernel_rfl) ?_
    change wpAnyIn _ _ _ _ _ _ _ _ _ (World.drew _)
    have hbY : Boxed X.drew N 91 v := hbx
    have hbc := hbY.cell
    have hfr := hbY.frozen
    have hrowY : X.drew.ownsRow (N + 2) 130 1 v vs.length vs := hrow
    have hvY : Hid (∀ j, j < pre.length → ActY X.drew (vs.getD j undef) (pre.getD j 0)) := Lib.hid (fun j hj => (HVS.out j hj).kept (show X.grownBy X.drew none from ⟨rfl, rfl, rfl, Nat.le_refl _, fun _ _ _ => rfl⟩) (Spares.none X))
    have hgX : KeepsOthers X X.drew := KeepsOthers.drew _
    have hbX : Below w.heap.size w X.drew := hB.drew
    have hblX : Hid (X.drew.heap[N + 1]? = X.heap[N + 1]?) := Lib.hid rfl
    have hsX : W0.heap.size ≤ X.drew.heap.size := hXs
    have HGX := Lib.hid hgX
    have HBX2 := Lib.hid hbX
    have HBY := Lib.hid hbY
    have HROWY := Lib.hid hrowY
    clear hbx hrow HVS hB hXs hgX hbX hbY hrowY
    generalize X.drew = Y at *
    refine wpAnyIn_ready (rs := [0, 1]) (by kernel_rfl) (by simp) ?_
    refine AllReadyIn.cons rfl (fun K hK => ?_) (AllReadyIn.cons rfl (fun K hK => ?_) (AllReadyIn.nil))
    · skip
      go_simp
      refine hK _ _ ?_
      clear hK K
      refine wpAnyIn_ready (rs := [1]) (by kernel_rfl) (by simp) ?_
      refine AllReadyIn.cons rfl (fun K hK => ?_) (AllReadyIn.nil)
      go_simp
      refine hK _ _ ?_
      clear hK K
      refine wpAnyIn_ready (rs := [2]) (by kernel_rfl) (by simp) ?_
      refine AllReadyIn.cons rfl (fun K hK => ?_) (AllReadyIn.nil)
      go_simp
      gi_wp2_with (refine ⟨trivial, ?_⟩; gi_at_call 114; refine (CallsIn.inRound l (callsIn_wide.2 (HA.out _))).mono ?_; rintro e X1 ⟨_, rfl, ⟨bx, gi, rfl, ha1, ha2⟩, hb1⟩; have hbX1 : Boxed X1 N 91 v := (hb1.block _ HBY.out.lt).trans HBY.out; have hbc1 := hbX1.cell; have hfr1 := hbX1.frozen; have hbc2 := (hbX1.alloc (.cells #[.func (.func 132) #[] #[.pointer (some ⟨bx, 0, none⟩)]] 130)).cell; have hfr2 := (hbX1.alloc (.cells #[.func (.func 132) #[] #[.pointer (some ⟨bx, 0, none⟩)]] 130)).frozen; have HBX1 := Lib.hid hbX1; have HAct := Lib.hid (show ActY X1 (.func (.func 132) #[] #[.pointer (some ⟨bx, 0, none⟩)]) x from ⟨bx, gi, rfl, ha1, ha2⟩); have HB1 := Lib.hid hb1; have hs1 := hb1.size; clear hbX1 ha1 ha2 hb1)
      refine wpAnyIn_ready (rs := [3]) (by kernel_rfl) (by simp) ?_
      refine AllReadyIn.cons rfl (fun K hK => ?_) (AllReadyIn.nil)
      go_simp
      refine hK _ _ ?_
      clear hK K
      refine wpAnyIn_ready (rs := [4]) (by kernel_rfl) (by simp) ?_
      refine AllReadyIn.cons rfl (fun K hK => ?_) (AllReadyIn.nil)
      have hrow4 : (X1.alloc (.cells #[.func (.func 132) #[] #[.pointer (some ⟨bx, 0, none⟩)]] 130)).ownsRow (N + 2) 130 1 v vs.length vs := (HROWY.out.kept (grown_of_below HB1.out) (by cases v.ownBlock <;> simp)).alloc _
      have hbx4 : Boxed (X1.alloc (.cells #[.func (.func 132) #[] #[.pointer (some ⟨bx, 0, none⟩)]] 130)) N 91 v := HBX1.out.alloc _
      have hc1 : ∀ j u, [Value.func (.func 132) #[] #[.pointer (some ⟨bx, 0, none⟩)]][j]? = some u → (X1.alloc (.cells #[.func (.func 132) #[] #[.pointer (some ⟨bx, 0, none⟩)]] 130)).cell? ((⟨X1.heap.size, 0, none⟩ : Addr).add j) = some u := cell_one_new X1 _ _
      refine wpIn_append_op _ _ _ 91 rfl (N + 2) 130 i0 .nilFunc 1 8 Try.underlying91 hi0 hz0 hz1 hz2 rfl (by decide) v vs.length _ rfl hrow4 ⟨X1.heap.size, 0, none⟩ 1 1 [.func (.func 132) #[] #[.pointer (some ⟨bx, 0, none⟩)]] rfl rfl hc1 (fun u hu => by simp at hu; subst hu; rfl) (by unfold maxLen; omega) (by omega) (by show N + 2 ≤ (X1.alloc _).heap.size; simp; omega) ?_
      intro v' w' r1 r2 _
      obtain ⟨g', cap', rfl⟩ := ownsRow_succ r1
      refine hK _ _ ?_
      clear hK K
      have hbx' : Boxed w' N 91 v := hbx4.kept r2 (hbx4.not_row (by decide) hrow4)
      have hbc' := hbx'.cell
      have hfr' := hbx'.frozen
      have Hr1 := Lib.hid r1
      have Hr2 := Lib.hid r2
      have Hhbx' := Lib.hid hbx'
      clear r1 r2 hbx' hrow4 hbx4 hc1
      refine wpAnyIn_ready (rs := [5]) (by kernel_rfl) (by simp) ?_
      refine AllReadyIn.cons rfl (fun K hK => ?_) (AllReadyIn.nil)
      go_simp
      refine hK _ _ ?_
      clear hK K
      refine wpAnyIn_done (by kernel_rfl) ?_ _
      gi_wp2
      exact acts_round HGX.out hblX.out (by omega) hsX HBX2.out hwN HVL.out HBY.out HROWY.out hvY.out HAct.out HB1.out Hr1.out Hr2.out
    · skip
      go_simp
      refine hK _ _ ?_
      clear hK K
      refine wpAnyIn_ready (rs := [0, 2]) (by kernel_rfl) (by simp) ?_
      refine AllReadyIn.cons rfl (fun K hK => ?_) (AllReadyIn.cons rfl (fun K hK => ?_) (AllReadyIn.nil))
      · skip
        go_simp
        refine hK _ _ ?_
        clear hK K
        refine wpAnyIn_ready (rs := [2]) (by kernel_rfl) (by simp) ?_
        refine AllReadyIn.cons rfl (fun K hK => ?_) (AllReadyIn.nil)
        go_simp
        gi_wp2_with (refine ⟨trivial, ?_⟩; gi_at_call 114; refine (CallsIn.inRound l (callsIn_wide.2 (HA.out _))).mono ?_; rintro e X1 ⟨_, rfl, ⟨bx, gi, rfl, ha1, ha2⟩, hb1⟩; have hbX1 : Boxed X1 N 91 v := (hb1.block _ HBY.out.lt).trans HBY.out; have hbc1 := hbX1.cell; have hfr1 := hbX1.frozen; have hbc2 := (hbX1.alloc (.cells #[.func (.func 132) #[] #[.pointer (some ⟨bx, 0, none⟩)]] 130)).cell; have hfr2 := (hbX1.alloc (.cells #[.func (.func 132) #[] #[.pointer (some ⟨bx, 0, none⟩)]] 130)).frozen; have HBX1 := Lib.hid hbX1; have HAct := Lib.hid (show ActY X1 (.func (.func 132) #[] #[.pointer (some ⟨bx, 0, none⟩)]) x from ⟨bx, gi, rfl, ha1, ha2⟩); have HB1 := Lib.hid hb1; have hs1 := hb1.size; clear hbX1 ha1 ha2 hb1)
        refine wpAnyIn_ready (rs := [3]) (by kernel_rfl) (by simp) ?_
        refine AllReadyIn.cons rfl (fun K hK => ?_) (AllReadyIn.nil)
        go_simp
        refine hK _ _ ?_
        clear hK K
        refine wpAnyIn_ready (rs := [4]) (by kernel_rfl) (by simp) ?_
        refine AllReadyIn.cons rfl (fun K hK => ?_) (AllReadyIn.nil)
        have hrow4 : (X1.alloc (.cells #[.func (.func 132) #[] #[.pointer (some ⟨bx, 0, none⟩)]] 130)).ownsRow (N + 2) 130 1 v vs.length vs := (HROWY.out.kept (grown_of_below HB1.out) (by cases v.ownBlock <;> simp)).alloc _
        have hbx4 : Boxed (X1.alloc (.cells #[.func (.func 132) #[] #[.pointer (some ⟨bx, 0, none⟩)]] 130)) N 91 v := HBX1.out.alloc _
        have hc1 : ∀ j u, [Value.func (.func 132) #[] #[.pointer (some ⟨bx, 0, none⟩)]][j]? = some u → (X1.alloc (.cells #[.func (.func 132) #[] #[.pointer (some ⟨bx, 0, none⟩)]] 130)).cell? ((⟨X1.heap.size, 0, none⟩ : Addr).add j) = some u := cell_one_new X1 _ _
        refine wpIn_append_op _ _ _ 91 rfl (N + 2) 130 i0 .nilFunc 1 8 Try.underlying91 hi0 hz0 hz1 hz2 rfl (by decide) v vs.length _ rfl hrow4 ⟨X1.heap.size, 0, none⟩ 1 1 [.func (.func 132) #[] #[.pointer (some ⟨bx, 0, none⟩)]] rfl rfl hc1 (fun u hu => by simp at hu; subst hu; rfl) (by unfold maxLen; omega) (by omega) (by show N + 2 ≤ (X1.alloc _).heap.size; simp; omega) ?_
        intro v' w' r1 r2 _
        obtain ⟨g', cap', rfl⟩ := ownsRow_succ r1
        refine hK _ _ ?_
        clear hK K
        have hbx' : Boxed w' N 91 v := hbx4.kept r2 (hbx4.not_row (by decide) hrow4)
        have hbc' := hbx'.cell
        have hfr' := hbx'.frozen
        have Hr1 := Lib.hid r1
        have Hr2 := Lib.hid r2
        have Hhbx' := Lib.hid hbx'
        clear r1 r2 hbx' hrow4 hbx4 hc1
        refine wpAnyIn_ready (rs := [5]) (by kernel_rfl) (by simp) ?_
        refine AllReadyIn.cons rfl (fun K hK => ?_) (AllReadyIn.nil)
        go_simp
        refine hK _ _ ?_
        clear hK K
        refine wpAnyIn_done (by kernel_rfl) ?_ _
        gi_wp2
        exact acts_round HGX.out hblX.out (by omega) hsX HBX2.out hwN HVL.out HBY.out HROWY.out hvY.out HAct.out HB1.out Hr1.out Hr2.out
      · skip
        go_simp
        gi_wp2_with (refine ⟨trivial, ?_⟩; gi_at_call 114; refine (CallsIn.inRound l (callsIn_wide.2 (HA.out _))).mono ?_; rintro e X1 ⟨_, rfl, ⟨bx, gi, rfl, ha1, ha2⟩, hb1⟩; have hbX1 : Boxed X1 N 91 v := (hb1.block _ HBY.out.lt).trans HBY.out; have hbc1 := hbX1.cell; have hfr1 := hbX1.frozen; have hbc2 := (hbX1.alloc (.cells #[.func (.func 132) #[] #[.pointer (some ⟨bx, 0, none⟩)]] 130)).cell; have hfr2 := (hbX1.alloc (.cells #[.func (.func 132) #[] #[.pointer (some ⟨bx, 0, none⟩)]] 130)).frozen; have HBX1 := Lib.hid hbX1; have HAct := Lib.hid (show ActY X1 (.func (.func 132) #[] #[.pointer (some ⟨bx, 0, none⟩)]) x from ⟨bx, gi, rfl, ha1, ha2⟩); have HB1 := Lib.hid hb1; have hs1 := hb1.size; clear hbX1 ha1 ha2 hb1)
        refine wpAnyIn_ready (rs := [0, 3]) (by kernel_rfl) (by simp) ?_
        refine AllReadyIn.cons rfl (fun K hK => ?_) (AllReadyIn.cons rfl (fun K hK => ?_) (AllReadyIn.nil))
        · skip
          go_simp
          refine hK _ _ ?_
          clear hK K
          refine wpAnyIn_ready (rs := [3]) (by kernel_rfl) (by simp) ?_
          refine AllReadyIn.cons rfl (fun K hK => ?_) (AllReadyIn.nil)
          go_simp
          refine hK _ _ ?_
          clear hK K
          refine wpAnyIn_ready (rs := [4]) (by kernel_rfl) (by simp) ?_
          refine AllReadyIn.cons rfl (fun K hK => ?_) (AllReadyIn.nil)
          have hrow4 : (X1.alloc (.cells #[.func (.func 132) #[] #[.pointer (some ⟨bx, 0, none⟩)]] 130)).ownsRow (N + 2) 130 1 v vs.length vs := (HROWY.out.kept (grown_of_below HB1.out) (by cases v.ownBlock <;> simp)).alloc _
          have hbx4 : Boxed (X1.alloc (.cells #[.func (.func 132) #[] #[.pointer (some ⟨bx, 0, none⟩)]] 130)) N 91 v := HBX1.out.alloc _
          have hc1 : ∀ j u, [Value.func (.func 132) #[] #[.pointer (some ⟨bx, 0, none⟩)]][j]? = some u → (X1.alloc (.cells #[.func (.func 132) #[] #[.pointer (some ⟨bx, 0, none⟩)]] 130)).cell? ((⟨X1.heap.size, 0, none⟩ : Addr).add j) = some u := cell_one_new X1 _ _
          refine wpIn_append_op _ _ _ 91 rfl (N + 2) 130 i0 .nilFunc 1 8 Try.underlying91 hi0 hz0 hz1 hz2 rfl (by decide) v vs.length _ rfl hrow4 ⟨X1.heap.size, 0, none⟩ 1 1 [.func (.func 132) #[] #[.pointer (some ⟨bx, 0, none⟩)]] rfl rfl hc1 (fun u hu => by simp at hu; subst hu; rfl) (by unfold maxLen; omega) (by omega) (by show N + 2 ≤ (X1.alloc _).heap.size; simp; omega) ?_
          intro v' w' r1 r2 _
          obtain ⟨g', cap', rfl⟩ := ownsRow_succ r1
          refine hK _ _ ?_
          clear hK K
          have hbx' : Boxed w' N 91 v := hbx4.kept r2 (hbx4.not_row (by decide) hrow4)
          have hbc' := hbx'.cell
          have hfr' := hbx'.frozen
          have Hr1 := Lib.hid r1
          have Hr2 := Lib.hid r2
          have Hhbx' := Lib.hid hbx'
          clear r1 r2 hbx' hrow4 hbx4 hc1
          refine wpAnyIn_ready (rs := [5]) (by kernel_rfl) (by simp) ?_
          refine AllReadyIn.cons rfl (fun K hK => ?_) (AllReadyIn.nil)
          go_simp
          refine hK _ _ ?_
          clear hK K
          refine wpAnyIn_done (by kernel_rfl) ?_ _
          gi_wp2
          exact acts_round HGX.out hblX.out (by omega) hsX HBX2.out hwN HVL.out HBY.out HROWY.out hvY.out HAct.out HB1.out Hr1.out Hr2.out
        · skip
          go_simp
          refine hK _ _ ?_
          clear hK K
          refine wpAnyIn_ready (rs := [0]) (by kernel_rfl) (by simp) ?_
          refine AllReadyIn.cons rfl (fun K hK => ?_) (AllReadyIn.nil)
          go_simp
          refine hK _ _ ?_
          clear hK K
          refine wpAnyIn_ready (rs := [4]) (by kernel_rfl) (by simp) ?_
          refine AllReadyIn.cons rfl (fun K hK => ?_) (AllReadyIn.nil)
          have hrow4 : (X1.alloc (.cells #[.func (.func 132) #[] #[.pointer (some ⟨bx, 0, none⟩)]] 130)).ownsRow (N + 2) 130 1 v vs.length vs := (HROWY.out.kept (grown_of_below HB1.out) (by cases v.ownBlock <;> simp)).alloc _
          have hbx4 : Boxed (X1.alloc (.cells #[.func (.func 132) #[] #[.pointer (some ⟨bx, 0, none⟩)]] 130)) N 91 v := HBX1.out.alloc _
          have hc1 : ∀ j u, [Value.func (.func 132) #[] #[.pointer (some ⟨bx, 0, none⟩)]][j]? = some u → (X1.alloc (.cells #[.func (.func 132) #[] #[.pointer (some ⟨bx, 0, none⟩)]] 130)).cell? ((⟨X1.heap.size, 0, none⟩ : Addr).add j) = some u := cell_one_new X1 _ _
          refine wpIn_append_op _ _ _ 91 rfl (N + 2) 130 i0 .nilFunc 1 8 Try.underlying91 hi0 hz0 hz1 hz2 rfl (by decide) v vs.length _ rfl hrow4 ⟨X1.heap.size, 0, none⟩ 1 1 [.func (.func 132) #[] #[.pointer (some ⟨bx, 0, none⟩)]] rfl rfl hc1 (fun u hu => by simp at hu; subst hu; rfl) (by unfold maxLen; omega) (by omega) (by show N + 2 ≤ (X1.alloc _).heap.size; simp; omega) ?_
          intro v' w' r1 r2 _
          obtain ⟨g', cap', rfl⟩ := ownsRow_succ r1
          refine hK _ _ ?_
          clear hK K
          have hbx' : Boxed w' N 91 v := hbx4.kept r2 (hbx4.not_row (by decide) hrow4)
          have hbc' := hbx'.cell
          have hfr' := hbx'.frozen
          have Hr1 := Lib.hid r1
          have Hr2 := Lib.hid r2
          have Hhbx' := Lib.hid hbx'
          clear r1 r2 hbx' hrow4 hbx4 hc1
          refine wpAnyIn_ready (rs := [5]) (by kernel_rfl) (by simp) ?_
          refine AllReadyIn.cons rfl (fun K hK => ?_) (AllReadyIn.nil)
          go_simp
          refine hK _ _ ?_
          clear hK K
          refine wpAnyIn_done (by kernel_rfl) ?_ _
          gi_wp2
          exact acts_round HGX.out hblX.out (by omega) hsX HBX2.out hwN HVL.out HBY.out HROWY.out hvY.out HAct.out HB1.out Hr1.out Hr2.out
  case done =>
    rintro D X hD ⟨hA, hB, hXs⟩ hK
    obtain ⟨vs, hvl, ⟨v, hbx, hrow, _⟩, hvs⟩ := hA
    have hgD := grownBy_putObj' X D (.deferred none)
    have hrow' := hrow.kept hgD (by
      cases e : v.ownBlock with
      | none => exact .inl rfl
      | some j =>
        refine .inr fun e2 => ?_
        cases e2
        obtain ⟨⟨c, f, h⟩, _⟩ := typed_own hrow e
        rw [hK] at h; cases h)
    have HVS := Lib.hid (fun j hj => (hvs j hj).kept hgD (spares_noncell (fun r e => by cases e; exact ⟨_, hK, rfl⟩)))
    have HROW := Lib.hid hrow'
    have HK := Lib.hid hK
    have hbc := hbx.cell
    clear hbx hrow hvs hrow' hgD
    gi_wp2
    all_goals
      refine ⟨by simp, .inl ⟨_, _, rfl, run_takeDeferred HK.out, ?_⟩⟩
      exact ⟨v, by simp [results, Try.f79, go_sem], v, vs, rfl, hvl, ownsRow_base HROW.out (by omega), HVS.out, hB.trans (belowK_b (w := w) (Nat.le_refl _) X D _ _ (by omega) HK.out rfl rfl)⟩

end Go.Proofs.Ytaaeiogdhmiaaaa

/- The contracts of the closure that 'action' makes, and of 'on'. -/

namespace Go.Proofs.Ytaaeiogdhmiaaaa
open Go.RowKit Go.Shelf

attribute [local go_sem] Oper.semAt_some

theorem put_acts (c : UInt8) (hc : brB c = true) (l : List UInt8) : redX [] (l.map (imgX (bImg c))).flatten = actS c l := by
  have := letL_putX (bImg c) l (bImg_word hc)
  have e := (putX_eq (bImg c) l (bImg_word hc)).1
  unfold actS
  rw [← e]
  unfold putX at this ⊢
  exact redX_eq _ _ this
theorem actS_len (c : UInt8) (hc : brB c = true) (l : List UInt8) (h : l.length ≤ 60) : (actS c l).length ≤ 3600 := by
  have h1 := redL_len (putL (bImg c) l) []
  have h2 := putX_len (bImg c) l (bImg_word hc)
  rw [(putX_eq (bImg c) l (bImg_word hc)).1] at h2
  have h3 : l.length * 60 ≤ 60 * 60 := Nat.mul_le_mul h (Nat.le_refl _)
  unfold actS
  simp only [List.length_nil] at h1
  omega

set_option maxRecDepth 100000 in
set_option maxHeartbeats 1000000 in
theorem act_any (c : UInt8) (hc : brB c = true) (g k cap bx gi : Nat) (l : List UInt8) (w : World) (hk : l.length = k) (hk60 : k ≤ 60) (hl : letL l = true)
    (hw : IsWord w.heap.size w (.slice (some ⟨g, 0, none⟩) k cap) l) (hb : Boxed w bx 99 (.slice (some ⟨gi, 0, none⟩) 4 4)) (hf : FourY gi w (bImg c)) :
    Calls Try.prog 132 #[.slice (some ⟨g, 0, none⟩) k cap, .pointer (some ⟨bx, 0, none⟩)] w fun e w' =>
      ∃ g' cap', e = .returned (.slice (some ⟨g', 0, none⟩) (actS c l).length cap') ∧ w'.ownsRow w.heap.size 77 1 (.slice (some ⟨g', 0, none⟩) (actS c l).length cap') (actS c l).length (bytesV (actS c l)) ∧ Below w.heap.size w w' := by
  have hp := (callsIn_wide (n := 40)).1 (wordPut_in 40 (by omega) g k cap gi 4 0 l (bImg c) w hk hk60 hl hw (bImg_ok hc).1 (bImg_word hc) hf.four)
  rw [put_acts c hc l] at hp
  have HP := Lib.hid hp
  have hbc := hb.cell
  clear hp hb hf hw hl hc
  go_enter Try.func132, Try.ntmps132
  go_wp2_with fail
  refine HP.out.mono ?_
  rintro e w1 ⟨g', m, cap', rfl, rfl, hown, hb1⟩
  have HO := Lib.hid hown
  clear hown
  go_wp2_with fail
  refine bodyPost_ret (v := .slice (some ⟨g', 0, none⟩) (actS c l).length cap') ?_ rfl ⟨g', cap', rfl, HO.out, hb1⟩
  simp [results, Try.results132, go_sem]

/-- What 'on' hands back. -/
def OnR (r : Option (List UInt8)) (e : Ending) (w' : World) : Prop :=
  match r with
  | none => e = .returned (.tuple #[.slice none 0 0, .bool false])
  | some l => ∃ g cap lo, e = .returned (.tuple #[.slice (some ⟨g, 0, none⟩) l.length cap, .bool true]) ∧ w'.ownsRow lo 77 1 (.slice (some ⟨g, 0, none⟩) l.length cap) l.length (bytesV l)

set_option maxRecDepth 100000 in
set_option maxHeartbeats 4000000 in
theorem on_any (cs : List UInt8) (hcs : ∀ c ∈ cs, brB c = true) (vs : List Value) (a : Option Addr) (b cap g cap1 lo : Nat) (l : List UInt8) (w : World) (hv : vs.length = cs.length) (hcs60 : cs.length ≤ 60)
    (ha : 0 < vs.length → a = some ⟨b, 0, none⟩) (hb : b < w.heap.size) (hc : ∀ i (h : i < vs.length), w.cell? ⟨b, i, none⟩ = some vs[i]) (hact : ∀ j, j < cs.length → ActY w (vs.getD j undef) (cs.getD j 0))
    (hl60 : l.length ≤ 60) (hl : letL l = true) (hown : w.ownsRow lo 77 1 (.slice (some ⟨g, 0, none⟩) l.length cap1) l.length (bytesV l)) :
    Calls Try.prog 80 #[.slice a vs.length cap, .slice (some ⟨g, 0, none⟩) l.length cap1] w fun e w' => OnR (actL cs l) e w' ∧ Below w.heap.size w w' := by
  obtain ⟨n, hn⟩ : ∃ n, vs.length = n := ⟨_, rfl⟩
  have HCS := Lib.hid hcs
  have HC := Lib.hid hc
  have HAct := Lib.hid hact
  have HL := Lib.hid hl
  have HO := Lib.hid hown
  have HV := Lib.hid hv
  rw [hn] at ha hv ⊢
  have hn60 : n ≤ 60 := by omega
  have HN := Lib.hid hn
  have HNC := Lib.hid hv
  clear hn hv
  obtain ⟨k0, hk0⟩ : ∃ k0, l.length = k0 := ⟨_, rfl⟩
  have HK0 := Lib.hid hk0
  have h0 : ∃ (x' : Value) (g cap lo : Nat) (l' : List UInt8), Value.slice (some ⟨g, 0, none⟩) k0 cap1 = x' := ⟨_, 0, 0, 0, [], rfl⟩
  clear hcs hc hact hl hown h0
  go_enter Try.func80, Try.ntmps80
  rw [hk0]
  go_wp2
  go_loopw [1, 7, 10] (fun x u i wr => ∃ (k : Nat) (u' : Value) (g' cap' lo' : Nat) (l' : List UInt8), k ≤ n ∧ i = .int .i64 (k : Int) ∧ u = u' ∧ x = .slice (some ⟨g', 0, none⟩) l'.length cap' ∧ l'.length ≤ 60 ∧ letL l' = true ∧ wr.ownsRow lo' 77 1 (.slice (some ⟨g', 0, none⟩) l'.length cap') l'.length (bytesV l') ∧ Hid (actL (cs.drop k) l' = actL cs l) ∧ Below w.heap.size w wr) (fun _ _ i _ => n - (intOf i).toNat)
  case atStart => exact ⟨0, _, g, cap1, lo, l, by omega, rfl, rfl, by rw [hk0], hl60, HL.out, HO.out, Lib.hid rfl, Below.refl _ _⟩
  case round =>
    obtain ⟨k, u', g', cap', lo', l', hk, rfl, rfl, rfl, hl60', hl', hown', HR, hB⟩ := hrel
    have hwr := hB.size
    by_cases hlt : k < n
    · obtain rfl := ha (by omega)
      have hkv : k < vs.length := by rw [HN.out]; exact hlt
      have hck : wr.cell? ⟨b, k, none⟩ = some vs[k] := (hB.cell (p := ⟨b, k, none⟩) hb).trans (HC.out k hkv)
      have hak := (HAct.out k (by rw [← HNC.out]; exact hlt)).below hB
      have hgd : vs.getD k undef = vs[k] := by rw [List.getD_eq_getElem?_getD, List.getElem?_eq_getElem hkv]; rfl
      obtain ⟨c, hcc⟩ : ∃ c, cs.getD k 0 = c := ⟨_, rfl⟩
      have hkc : k < cs.length := by rw [← HNC.out]; exact hlt
      have hcd : cs.drop k = c :: cs.drop (k + 1) := by
        rw [List.drop_eq_getElem_cons hkc, ← hcc, List.getD_eq_getElem?_getD, List.getElem?_eq_getElem hkc]; rfl
      have hbr : brB c = true := HCS.out c (by rw [← hcc, List.getD_eq_getElem?_getD, List.getElem?_eq_getElem hkc]; exact List.getElem_mem hkc)
      rw [hgd, hcc] at hak
      obtain ⟨bx, gi, hva, hbx, hfy⟩ := hak
      rw [hva] at hck
      have HCall := Lib.hid (act_any c hbr g' l'.length cap' bx gi l' wr rfl hl60' hl' (isWord_of_owns (n₀ := wr.heap.size) rfl (by omega) hown' (Nat.le_refl _)) hbx hfy)
      have HLen := actS_len c hbr l' hl60'
      have HLet := Lib.hid (actS_let hbr l')
      have HB := Lib.hid hB
      have HR2 : Hid ((if (actS c l').length ≤ 60 then actL (cs.drop (k + 1)) (actS c l') else none) = actL cs l) := Lib.hid (by
        have h := HR.out
        rw [hcd] at h
        exact h)
      obtain ⟨l2, hl2⟩ : ∃ l2, actS c l' = l2 := ⟨_, rfl⟩
      rw [hl2] at HCall HLen HLet HR2
      clear hown' hgd hbr hcd hva hbx hfy hB hcc hl' hl2 HR hkv hkc
      go_wp2_with fail
      refine HCall.out.mono ?_
      rintro e w1 ⟨g2, cap2, rfl, hown2, hb2⟩
      have HB2 := Lib.hid (HB.out.trans (hb2.mono hwr))
      have HO2 := Lib.hid hown2
      clear hown2 hb2
      obtain ⟨m, hm⟩ : ∃ m, l2.length = m := ⟨_, rfl⟩
      have HM := Lib.hid hm
      rw [hm] at HLen ⊢
      clear hm
      by_cases h60 : m ≤ 60
      · have HR3 := Lib.hid (show actL (cs.drop (k + 1)) l2 = actL cs l by have h := HR2.out; rw [HM.out, if_pos h60] at h; exact h)
        go_wp2
        go_roundw
        case rel =>
          exact ⟨k + 1, _, g2, cap2, _, l2, by omega, by go_num, rfl, by rw [HM.out], by rw [HM.out]; exact h60, HLet.out, HO2.out, HR3, HB2.out⟩
        case measure => simp [intOf]; omega
      · have HR3 := Lib.hid (show none = actL cs l by have h := HR2.out; rw [HM.out, if_neg h60] at h; exact h)
        go_wp2
        go_ret2
        refine ⟨?_, HB2.out⟩
        rw [← HR3.out]
        rfl
    · obtain rfl : k = n := by omega
      have HR3 := Lib.hid (show some l' = actL cs l by have h := HR.out; rw [List.drop_eq_nil_of_le (by rw [← HNC.out]; exact Nat.le_refl _)] at h; exact h)
      have HO2 := Lib.hid hown'
      obtain ⟨m, hm⟩ : ∃ m, l'.length = m := ⟨_, rfl⟩
      have HM := Lib.hid hm
      rw [hm] at hl60' ⊢
      clear hown' HR hl' hm
      go_wp2
      go_ret2
      refine ⟨?_, hB⟩
      rw [← HR3.out]
      refine ⟨g', cap', lo', ?_, HO2.out⟩
      rw [HM.out]
      rfl

end Go.Proofs.Ytaaeiogdhmiaaaa

/- The contract of the program's BraidAct. -/

namespace Go.Proofs.Ytaaeiogdhmiaaaa
open Go.RowKit Go.Shelf

attribute [local go_sem] Oper.semAt_some

/-- A word and whether there is one. -/
def actR (b : Bool) (r : Option (List UInt8)) : Value :=
  match b, r with
  | true, some l => .tuple #[.string (bstr l), .bool true]
  | _, _ => .tuple #[.string { data := #[] }, .bool false]

set_option maxRecDepth 100000 in
set_option maxHeartbeats 2000000 in
theorem iBraidAct_any (n : Int) (s u : ByteArray) (w : World) (hs : s.size ≤ maxLen) (hu : u.size ≤ maxLen) :
    Calls Try.prog 32 #[brV n s, .string u] w fun e w' => e = .returned (actR (wordB u.data.toList && braidB n s) (actL s.data.toList u.data.toList)) ∧ Below w.heap.size w w' := by
  obtain ⟨W, hW⟩ : ∃ W, w.alloc (.cells #[.int .i64 n, .string s] 26) = W := ⟨_, rfl⟩
  have HX := Lib.hid (oneBox hW)
  have HW := Lib.hid hW
  clear hW
  have hsz := HX.out.2.1
  cases hwu : wordB u.data.toList with
  | false =>
    have HWO := Lib.hid (fun w => wordOf_no u w hu hwu)
    clear hwu
    go_enter Try.func32, Try.ntmps32
    go_wp2_with fail
    rw [HW.out]
    refine (HWO.out W).mono ?_
    rintro e w1 ⟨rfl, hb1⟩
    go_wp2_with fail
    go_ret2
    exact ⟨rfl, HX.out.1.trans (hb1.mono HX.out.1.size)⟩
  | true =>
    have hw1 := (wordB_iff _).1 hwu
    have hu60 : u.size ≤ 60 := by simpa using hw1.1
    have HLu := Lib.hid hw1.2.1
    have HWO := Lib.hid (fun w => wordOf_yes u w hwu)
    obtain ⟨b, hb⟩ : ∃ b, braidB n s = b := ⟨_, rfl⟩
    have HA := Lib.hid (fun w => iBraidIn_any n s b w hs hb)
    have HB := Lib.hid hb
    obtain ⟨r, hr⟩ : ∃ r, actL s.data.toList u.data.toList = r := ⟨_, rfl⟩
    rw [hb, hr]
    have HR := Lib.hid hr
    clear hwu hw1 hb hr
    go_enter Try.func32, Try.ntmps32
    go_wp2_with fail
    rw [HW.out]
    refine (HWO.out W).mono ?_
    rintro e w1 ⟨g, cap, rfl, hown, hb1⟩
    have HO := Lib.hid hown
    have HB1 := Lib.hid hb1
    obtain ⟨⟨c0, c1⟩, _, _⟩ := boxOf2 HX.out.2.2 hb1
    clear hown hb1
    go_wp2_with fail
    refine (HA.out w1).mono ?_
    rintro e w2 ⟨rfl, hb2⟩
    clear c0 c1
    have HB2 := Lib.hid hb2
    have hbW : Below W.heap.size W w2 := HB1.out.trans (hb2.mono HB1.out.size)
    have HBW := Lib.hid hbW
    obtain ⟨⟨c0, c1⟩, _, _⟩ := boxOf2 HX.out.2.2 hbW
    clear hb2 hbW
    cases b with
    | false =>
      go_wp2_with fail
      go_ret2
      exact ⟨rfl, HX.out.1.trans (HBW.out.mono HX.out.1.size)⟩
    | true =>
      obtain ⟨_, p3, pA⟩ := braid_all HB.out
      have HPA := Lib.hid pA
      have HAC := Lib.hid ((callsIn_wide (n := 30)).1 (actions_in 30 (by omega) n s w2 HB.out))
      have hs60 : s.data.toList.length ≤ 60 := by simp at p3 ⊢; omega
      have HS60 := Lib.hid hs60
      clear pA p3 hs60
      go_wp2_with fail
      refine HAC.out.mono ?_
      rintro e w3 ⟨v, vs, rfl, hvl, hrow, hact, hb3⟩
      clear c0 c1
      obtain ⟨a, cap1, b1, rfl, h1, h2, h3⟩ := owns_slice hrow (by have := hb3.size; have := HBW.out.size; omega)
      have how3 := (HO.out.kept (grown_of_below HB2.out) (by simp [Value.ownBlock])).kept (grown_of_below hb3) (by simp [Value.ownBlock])
      have hul : u.size = u.data.toList.length := by simp
      have HON := Lib.hid (on_any s.data.toList (fun c hc => (HPA.out c hc).1) vs a b1 cap1 g cap _ u.data.toList w3 hvl HS60.out h1 h2 h3 hact (by rw [← hul]; exact hu60) HLu.out (by rw [hul] at how3; exact how3))
      have HB3 := Lib.hid (HX.out.1.trans ((HBW.out.trans (hb3.mono HBW.out.size)).mono HX.out.1.size))
      have hs3 := HB3.out.size
      rw [← hul] at HON
      clear hvl hrow hact hb3 h1 h2 h3 how3 hul
      obtain ⟨m, hm⟩ : ∃ m, vs.length = m := ⟨_, rfl⟩
      rw [hm] at HON ⊢
      clear hm
      go_wp2_with fail
      refine HON.out.mono ?_
      rintro e w4 ⟨hon, hb4⟩
      have HB4 := Lib.hid (HB3.out.trans (hb4.mono hs3))
      have hs4 := HB4.out.size
      clear hb4
      have hlen := Lib.hid (fun r h => actL_len s.data.toList u.data.toList r (by simpa using hu60) h)
      rw [HR.out] at hon hlen
      cases r with
      | none =>
        obtain rfl := (show e = _ from hon)
        go_wp2_with fail
        go_ret2
        exact ⟨rfl, HB4.out⟩
      | some l =>
        obtain ⟨g2, cap2, lo2, rfl, hown2⟩ := hon
        have HT := Lib.hid (told_yes lo2 g2 cap2 l.length l w4 rfl (hlen.out l rfl) hown2)
        clear hown2 hlen
        obtain ⟨k, hk⟩ : ∃ k, l.length = k := ⟨_, rfl⟩
        rw [hk] at HT ⊢
        clear hk
        go_wp2_with fail
        refine HT.out.mono ?_
        rintro e w5 ⟨rfl, hb5⟩
        go_wp2_with fail
        go_ret2
        exact ⟨rfl, HB4.out.trans (hb5.mono hs4)⟩

end Go.Proofs.Ytaaeiogdhmiaaaa

/- Laws of acting: relations, far letters, inverses, the product of all generators, conjugates of generators. -/

namespace Go.Proofs.Ytaaeiogdhmiaaaa
open Go.RowKit

theorem brLet_tab : ∀ n : Fin 256, brB (UInt8.ofNat n.val) = true → UInt8.ofNat n.val ∈ [120, 121, 122, 88, 89, 90] := by decide +kernel
theorem brB_mem {c : UInt8} (h : brB c = true) : c ∈ ([120, 121, 122, 88, 89, 90] : List UInt8) := by
  have := brLet_tab ⟨c.toNat, c.toNat_lt⟩
  simp only [UInt8.ofNat_toNat] at this
  exact this h
theorem let_tab : ∀ n : Fin 256, letB (UInt8.ofNat n.val) = true → UInt8.ofNat n.val ∈ [97, 98, 99, 100, 65, 66, 67, 68] := by decide +kernel
theorem letB_mem {c : UInt8} (h : letB c = true) : c ∈ ([97, 98, 99, 100, 65, 66, 67, 68] : List UInt8) := by
  have := let_tab ⟨c.toNat, c.toNat_lt⟩
  simp only [UInt8.ofNat_toNat] at this
  exact this h

theorem rel_all : ∀ c ∈ ([97, 98, 99, 100, 65, 66, 67, 68] : List UInt8), redL [] (compS [120, 121, 120] [c]) = redL [] (compS [121, 120, 121] [c]) := by decide +kernel
theorem far_all : ∀ c ∈ ([97, 98, 99, 100, 65, 66, 67, 68] : List UInt8), redL [] (compS [120, 122] [c]) = redL [] (compS [122, 120] [c]) := by decide +kernel
theorem act_rel (b l : List UInt8) (hb : ∀ c ∈ b, brB c = true) (hl : letL l = true) (hn : noC l) : actF (b ++ [120, 121, 120]) l = actF (b ++ [121, 120, 121]) l := by
  rw [actF_append, actF_append]
  exact act_same _ _ (by decide) (by decide) (fun c hc => rel_all c (letB_mem hc)) _ (actF_let b hb l hl) (actF_noC b l hn)
theorem act_far (b l : List UInt8) (hb : ∀ c ∈ b, brB c = true) (hl : letL l = true) (hn : noC l) : actF (b ++ [120, 122]) l = actF (b ++ [122, 120]) l := by
  rw [actF_append, actF_append]
  exact act_same _ _ (by decide) (by decide) (fun c hc => far_all c (letB_mem hc)) _ (actF_let b hb l hl) (actF_noC b l hn)

/-! ### Inverses -/
theorem turn_all : ∀ x ∈ ([120, 121, 122, 88, 89, 90] : List UInt8), ∀ c ∈ ([97, 98, 99, 100, 65, 66, 67, 68] : List UInt8), redL [] (compS [x, turnB x] [c]) = [c] := by decide +kernel
theorem act_turn (x : UInt8) (hx : brB x = true) (l : List UInt8) (hl : letL l = true) (hn : noC l) : actF [x, turnB x] l = l := by
  have h := act_same [x, turnB x] [] (fun c hc => by
      rcases List.mem_cons.1 hc with rfl | hc
      · exact hx
      · obtain rfl := List.mem_singleton.1 hc
        exact (brB_turn hx).2.1) (fun c hc => by cases hc) (fun c hc => by
      rw [turn_all x (brB_mem hx) c (letB_mem hc)]
      exact ((red_iff _).2 (noC_one c)).symm) l hl hn
  rw [h]; rfl
theorem act_turned : ∀ (b : List UInt8), (∀ c ∈ b, brB c = true) → ∀ l, letL l = true → noC l → actF (backL b) (actF b l) = l
  | [], _, l, _, _ => rfl
  | x :: b, hb, l, hl, hn => by
    have hx := hb x (by simp)
    have hb' : ∀ c ∈ b, brB c = true := fun c hc => hb c (by simp [hc])
    have e : backL (x :: b) = backL b ++ [turnB x] := by rw [show x :: b = [x] ++ b from rfl, backL_append]; simp [backL]
    rw [e, actF_append, show actF (x :: b) l = actF b (actS x l) from rfl, act_turned b hb' _ (actS_let hx l) (actS_noC x l)]
    exact act_turn x hx l hl hn

/-! ### The product of all generators -/
def gensL (n : Nat) : List UInt8 := [97, 98, 99, 100].take n
theorem prod_all : ∀ n ∈ [2, 3, 4], ∀ x ∈ ([120, 121, 122, 88, 89, 90] : List UInt8), plN x + 1 < n → actS x (gensL n) = gensL n := by decide +kernel
theorem act_prod (n : Nat) (hn : 2 ≤ n ∧ n ≤ 4) : ∀ (b : List UInt8), (∀ c ∈ b, brB c = true ∧ plN c + 1 < n) → actF b (gensL n) = gensL n
  | [], _ => rfl
  | x :: b, hb => by
    obtain ⟨hx, hp⟩ := hb x (by simp)
    show actF b (actS x (gensL n)) = _
    rw [prod_all n (by simp; omega) x (brB_mem hx) hp]
    exact act_prod n hn b fun c hc => hb c (by simp [hc])

/-! ### Conjugates of generators -/
/-- The word is a generator, or a conjugate of one. -/
def isGen (g : UInt8) : Bool := decide (97 ≤ g.toNat ∧ g.toNat ≤ 100)
theorem isGen_let {g : UInt8} (h : isGen g = true) : letB g = true := by
  unfold isGen at h; rw [decide_eq_true_eq] at h
  exact (letB_iff g).2 (.inl h)
/-- The generator to a conjugate of which a letter takes a generator, and by which word. -/
def cGen (x g : UInt8) : UInt8 := if g = genC (plN x) then genC (plN x + 1) else if g = genC (plN x + 1) then genC (plN x) else g
def cWord (x g : UInt8) : List UInt8 :=
  if 97 ≤ x.toNat then (if g = genC (plN x) then [g] else []) else (if g = genC (plN x + 1) then [turnB g] else [])
theorem conj_all : ∀ x ∈ ([120, 121, 122, 88, 89, 90] : List UInt8), ∀ g ∈ ([97, 98, 99, 100] : List UInt8), isGen (cGen x g) = true ∧ letL (cWord x g) = true ∧ redL [] (putL (bImg x) [g]) = redL [] (cWord x g ++ [cGen x g] ++ backL (cWord x g)) := by decide +kernel
theorem gen_mem {g : UInt8} (h : isGen g = true) : g ∈ ([97, 98, 99, 100] : List UInt8) := by
  have ht : ∀ n : Fin 256, isGen (UInt8.ofNat n.val) = true → UInt8.ofNat n.val ∈ [97, 98, 99, 100] := by decide +kernel
  have := ht ⟨g.toNat, g.toNat_lt⟩
  simp only [UInt8.ofNat_toNat] at this
  exact this h
/-- A letter takes a conjugate to a conjugate. -/
theorem act_conj (x : UInt8) (hx : brB x = true) (u : List UInt8) (hu : letL u = true) (g : UInt8) (hg : isGen g = true) :
    ∃ v, letL v = true ∧ actS x (redL [] (u ++ [g] ++ backL u)) = redL [] (v ++ [cGen x g] ++ backL v) := by
  obtain ⟨c1, c2, c3⟩ := conj_all x (brB_mem hx) g (gen_mem hg)
  have hz := bImg_word hx
  have hgl : letL [g] = true := by simp [letL, isGen_let hg]
  have hcl : letL [cGen x g] = true := by simp [letL, isGen_let c1]
  have hpu := put_let _ hz u
  have hb2 := letL_back _ hpu
  have hcb := letL_back _ c2
  refine ⟨putL (bImg x) u ++ cWord x g, by rw [letL_append, hpu, c2]; rfl, ?_⟩
  unfold actS
  rw [put_red _ hz _ (by rw [letL_append, letL_append, hu, hgl, letL_back _ hu]; rfl), putL_append, putL_append, put_back _ hz u hu]
  rw [← red_append (putL (bImg x) u ++ putL (bImg x) [g]), ← red_right (put_let _ hz [g]), c3, red_right (b := cWord x g ++ [cGen x g] ++ backL (cWord x g)) (by rw [letL_append, letL_append, c2, hcl, hcb]; rfl), red_append, backL_append]
  simp
/-- Where a braid takes a generator. -/
def cGens : List UInt8 → UInt8 → UInt8
  | [], g => g
  | x :: b, g => cGens b (cGen x g)
theorem cGens_gen : ∀ (b : List UInt8), (∀ c ∈ b, brB c = true) → ∀ g, isGen g = true → isGen (cGens b g) = true
  | [], _, g, h => h
  | x :: b, hb, g, h => cGens_gen b (fun c hc => hb c (by simp [hc])) _ (conj_all x (brB_mem (hb x (by simp))) g (gen_mem h)).1
theorem acts_conj : ∀ (b : List UInt8), (∀ c ∈ b, brB c = true) → ∀ (u : List UInt8), letL u = true → ∀ g, isGen g = true →
    ∃ v, letL v = true ∧ actF b (redL [] (u ++ [g] ++ backL u)) = redL [] (v ++ [cGens b g] ++ backL v)
  | [], _, u, hu, g, _ => ⟨u, hu, rfl⟩
  | x :: b, hb, u, hu, g, hg => by
    have hx := hb x (by simp)
    obtain ⟨v, hv, e⟩ := act_conj x hx u hu g hg
    have hg2 := (conj_all x (brB_mem hx) g (gen_mem hg)).1
    show ∃ v, letL v = true ∧ actF b (actS x _) = _
    rw [e]
    exact acts_conj b (fun c hc => hb c (by simp [hc])) v hv _ hg2
theorem cGen_inj : ∀ x ∈ ([120, 121, 122, 88, 89, 90] : List UInt8), ∀ g ∈ ([97, 98, 99, 100] : List UInt8), ∀ h ∈ ([97, 98, 99, 100] : List UInt8), cGen x g = cGen x h → g = h := by decide +kernel
theorem cGens_inj : ∀ (b : List UInt8), (∀ c ∈ b, brB c = true) → ∀ g h, isGen g = true → isGen h = true → cGens b g = cGens b h → g = h
  | [], _, g, h, _, _, e => e
  | x :: b, hb, g, h, hg, hh, e => by
    have hx := hb x (by simp)
    have := cGens_inj b (fun c hc => hb c (by simp [hc])) _ _ (conj_all x (brB_mem hx) g (gen_mem hg)).1 (conj_all x (brB_mem hx) h (gen_mem hh)).1 e
    exact cGen_inj x (brB_mem hx) g (gen_mem hg) h (gen_mem hh) this

/-! ### Cores of conjugates -/
theorem noC_join {a b : List UInt8} (x : UInt8) (h1 : noC (a ++ [x])) (h2 : noC (x :: b)) : noC (a ++ x :: b) := by
  intro p s t q e
  rcases List.append_eq_append_iff.1 e with ⟨c, hp, hc⟩ | ⟨c, ha, hc⟩
  · exact h2 c s t q hc
  · match c, hc with
    | [], hc => exact h2 [] s t q (by simpa using hc.symm)
    | [y], hc =>
      simp at hc
      obtain ⟨rfl, rfl, _⟩ := hc
      exact h1 p s t [] (by rw [ha]; simp)
    | y :: z :: d, hc =>
      simp at hc
      obtain ⟨rfl, rfl, _⟩ := hc
      exact h1 p s t (d ++ [x]) (by rw [ha]; simp)
theorem core_conj (g : UInt8) : ∀ (u : List UInt8), letL u = true → ∀ m, u.length ≤ m → coreF m (u ++ [g] ++ backL u) = [g]
  | [], _, m, _ => by
    rw [show ([] : List UInt8) ++ [g] ++ backL [] = [g] from rfl]
    exact coreF_false (by simp [coreC]) m
  | c :: r, h, m, hm => by
    have hc : letB c = true := by simp [letL] at h; exact h.1
    have hr : letL r = true := by simp [letL] at h ⊢; exact h.2
    obtain ⟨k, rfl⟩ : ∃ k, m = k + 1 := ⟨m - 1, by simp at hm; omega⟩
    obtain ⟨M, hM⟩ : ∃ M, r ++ [g] ++ backL r = M := ⟨_, rfl⟩
    have e : c :: r ++ [g] ++ backL (c :: r) = [c] ++ M ++ [turnB c] := by
      rw [show backL (c :: r) = backL r ++ [turnB c] by rw [show c :: r = [c] ++ r from rfl, backL_append]; simp [backL], ← hM]
      simp
    have hcc : coreC ([c] ++ M ++ [turnB c]) = true := by
      unfold coreC
      rw [Bool.and_eq_true, decide_eq_true_eq, decide_eq_true_eq]
      refine ⟨by simp, ?_⟩
      have h1 : ([c] ++ M ++ [turnB c]).getLast? = some (turnB c) := List.getLast?_concat
      rw [h1]
      simp [(turn_turn c hc).1]
    rw [e, coreF_true hcc]
    have e2 : ([c] ++ M ++ [turnB c]).tail.dropLast = M := by simp
    rw [e2, ← hM]
    exact core_conj g r hr k (by simp at hm; omega)
/-- The core of a reduced conjugate of a generator is the generator. -/
theorem core_red_conj (g : UInt8) (hg : letB g = true) : ∀ (n : Nat) (u : List UInt8), u.length ≤ n → letL u = true → noC u → coreL (redL [] (u ++ [g] ++ backL u)) = [g] := by
  intro n
  induction n with
  | zero =>
    intro u hu _ _
    obtain rfl := List.length_eq_zero_iff.1 (Nat.le_zero.1 hu)
    rw [show ([] : List UInt8) ++ [g] ++ backL [] = [g] from rfl, (red_iff _).2 (noC_one g)]
    unfold coreL
    exact coreF_false (by simp [coreC]) _
  | succ n ih =>
    intro u hu hl hn
    rcases List.eq_nil_or_concat u with rfl | ⟨v, x, rfl⟩
    · exact ih [] (Nat.zero_le _) hl hn
    · rw [List.concat_eq_append] at *
      have hv : letL v = true := by rw [letL_append] at hl; simp at hl; exact hl.1
      have hx : letB x = true := by rw [letL_append] at hl; simp [letL] at hl; exact hl.2
      have hnv : noC v := noC_left hn
      have hlen : v.length ≤ n := by simp at hu; omega
      have hgl : letL [g] = true := by simp [letL, hg]
      have eb : backL (v ++ [x]) = [turnB x] ++ backL v := by rw [backL_append]; simp [backL]
      by_cases h1 : x = g
      · have : redL [] (v ++ [x] ++ [g] ++ backL (v ++ [x])) = redL [] (v ++ [g] ++ backL v) := by
          rw [eb, h1]
          have e : v ++ [g] ++ [g] ++ ([turnB g] ++ backL v) = (v ++ [g]) ++ backL (backL [g]) ++ backL [g] ++ backL v := by
            rw [back_back [g] hgl]; simp [backL]
          rw [e, red_mid (letL_back _ hgl)]
        rw [this]
        exact ih v hlen hv hnv
      · by_cases h2 : x = turnB g
        · have : redL [] (v ++ [x] ++ [g] ++ backL (v ++ [x])) = redL [] (v ++ [g] ++ backL v) := by
            rw [eb, h2, (turn_turn g hg).1]
            have e : v ++ [turnB g] ++ [g] ++ ([g] ++ backL v) = v ++ backL [g] ++ [g] ++ ([g] ++ backL v) := by simp [backL]
            rw [e, red_mid hgl]; simp
          rw [this]
          exact ih v hlen hv hnv
        · have hnc : noC (v ++ [x] ++ [g] ++ backL (v ++ [x])) := by
            have a1 : noC (v ++ [x] ++ [g]) := noC_snoc _ _ hn (by simp; exact h2)
            have a2 : noC (g :: backL (v ++ [x])) := by
              have hb := noC_back _ hl hn
              rw [eb] at hb ⊢
              show noC (g :: turnB x :: backL v)
              exact (noC_cons _ _ _).2 ⟨by rw [(turn_turn x hx).1]; exact fun e => h1 e.symm, hb⟩
            have := noC_join g a1 a2
            simpa using this
          rw [(red_iff _).2 hnc]
          unfold coreL
          exact core_conj g _ hl _ (by simp)
theorem conj_red {u : List UInt8} (hu : letL u = true) (g : UInt8) : redL [] (u ++ [g] ++ backL u) = redL [] (redL [] u ++ [g] ++ backL (redL [] u)) := by
  have e : redL [] u ++ [g] ++ backL u = redL [] u ++ ([g] ++ backL u) := by simp
  rw [back_red hu, red_right (letL_back _ hu), e, red_append]
  simp
/-- A braid takes a generator to a conjugate whose core is a generator. -/
theorem act_core (b : List UInt8) (hb : ∀ c ∈ b, brB c = true) (g : UInt8) (hg : isGen g = true) : coreL (actF b [g]) = [cGens b g] := by
  obtain ⟨v, hv, e⟩ := acts_conj b hb [] rfl g hg
  rw [show ([] : List UInt8) ++ [g] ++ backL [] = [g] from rfl, (red_iff _).2 (noC_one g)] at e
  have h2 := isGen_let (cGens_gen b hb g hg)
  rw [e, conj_red hv]
  exact core_red_conj _ h2 _ _ (Nat.le_refl _) (letL_red2 _ [] hv rfl) (noC_red _ [] noC_nil)

end Go.Proofs.Ytaaeiogdhmiaaaa

/- What acting hands back, for the promises on it. -/

namespace Go.Proofs.Ytaaeiogdhmiaaaa
open Go.RowKit

/-- A word and a Bool, and what the word is where the Bool is true. -/
theorem act_shape (b : Bool) (o : Option (List UInt8)) : ∃ t c, actR b o = .tuple #[.string t, .bool c] ∧ (c = true → b = true ∧ o = some t.data.toList) ∧ (c = false → t = { data := #[] }) ∧ t.size ≤ (o.getD []).length := by
  cases b with
  | false => exact ⟨_, _, rfl, (fun h => by cases h), (fun _ => rfl), Nat.zero_le _⟩
  | true =>
    cases o with
    | none => exact ⟨_, _, rfl, (fun h => by cases h), (fun _ => rfl), Nat.zero_le _⟩
    | some l => exact ⟨bstr l, true, rfl, (fun _ => ⟨rfl, rfl⟩), (fun h => by cases h), by rw [bstr_size]; exact Nat.le_refl _⟩
theorem act_gens {N : Nat} (hN : 2 ≤ N ∧ N ≤ 4) {s : List UInt8} (hs : ∀ c ∈ s, brB c = true ∧ plN c + 1 < N) {r : List UInt8} (h : actL s (gensL N) = some r) : r = gensL N := by
  rw [actL_F _ _ _ h]; exact act_prod N hN s hs
theorem ba_eq {a b : ByteArray} (h : a.data.toList = b.data.toList) : a = b := by
  cases a; cases b
  simp at h
  simp [h]

end Go.Proofs.Ytaaeiogdhmiaaaa

/- Turned braids, for the promise on them. -/

namespace Go.Proofs.Ytaaeiogdhmiaaaa
open Go.RowKit

theorem turn_tab2 : ∀ n : Fin 256, brB (UInt8.ofNat n.val) = true → turnB (turnB (UInt8.ofNat n.val)) = UInt8.ofNat n.val ∧ brB (turnB (UInt8.ofNat n.val)) = true ∧ plN (turnB (UInt8.ofNat n.val)) = plN (UInt8.ofNat n.val) := by decide +kernel
theorem turn_br {c : UInt8} (h : brB c = true) : turnB (turnB c) = c ∧ brB (turnB c) = true ∧ plN (turnB c) = plN c := by
  have := turn_tab2 ⟨c.toNat, c.toNat_lt⟩
  simp only [UInt8.ofNat_toNat] at this
  exact this h
theorem backB_back (l : List UInt8) (h : ∀ c ∈ l, brB c = true) : backL (backL l) = l := by
  unfold backL
  rw [← List.map_reverse, List.reverse_reverse, List.map_map]
  conv => rhs; rw [← List.map_id l]
  exact List.map_congr_left fun c hc => (turn_br (h c hc)).1
theorem backB_mem {l : List UInt8} {c : UInt8} (hc : c ∈ backL l) : ∃ d ∈ l, c = turnB d := by
  unfold backL at hc
  obtain ⟨d, hd, rfl⟩ := List.mem_map.1 hc
  exact ⟨d, by simpa using hd, rfl⟩
theorem braid_turned {n : Int} {s : ByteArray} (h : braidB n s = true) : braidB n (bstr (backL s.data.toList)) = true := by
  obtain ⟨h1, h2, h3⟩ := braid_all h
  unfold braidB
  simp only [Bool.and_eq_true, decide_eq_true_eq, List.all_eq_true]
  refine ⟨⟨h1, by rw [bstr_size, backL_length]; simpa using h2⟩, fun c hc => ?_⟩
  obtain ⟨d, hd, rfl⟩ := backB_mem hc
  obtain ⟨_, e2, e3⟩ := turn_br (h3 d hd).1
  unfold brL
  rw [e2, e3]
  simpa using (h3 d hd).2

end Go.Proofs.Ytaaeiogdhmiaaaa

/- Acting goes along turning and powers, for the promise on it. -/

namespace Go.Proofs.Ytaaeiogdhmiaaaa
open Go.RowKit

theorem actS_back {c : UInt8} (hc : brB c = true) (l : List UInt8) (hl : letL l = true) : actS c (backL l) = backL (actS c l) := by
  have hz := bImg_word hc
  unfold actS
  rw [put_back _ hz l hl, back_red (put_let _ hz l)]
theorem actL_back : ∀ (b : List UInt8), (∀ c ∈ b, brB c = true) → ∀ l, letL l = true → actL b (backL l) = (actL b l).map backL
  | [], _, l, _ => rfl
  | c :: b, hb, l, hl => by
    have hc := hb c (by simp)
    have hb' : ∀ x ∈ b, brB x = true := fun x hx => hb x (by simp [hx])
    unfold actL
    rw [actS_back hc l hl, backL_length]
    split
    · exact actL_back b hb' _ (actS_let hc l)
    · rfl
theorem actF_two (b : List UInt8) (hb : ∀ c ∈ b, brB c = true) (l : List UInt8) (hl : letL l = true) (hn : noC l) : actF b (redL [] (l ++ l)) = redL [] (actF b l ++ actF b l) := by
  have hll : letL (l ++ l) = true := by rw [letL_append, hl]; rfl
  have h2 : noC (redL [] (l ++ l)) := noC_red _ [] noC_nil
  rw [actF_comp b hb _ (letL_red2 _ [] hll rfl) h2, compS_red b hb _ hll, compS_append, actF_comp b hb l hl hn, red_both (compS_let b hb l hl)]
/-- A word that is told, and a Bool. -/
theorem told_shape (l : List UInt8) : ∃ t c, toldV l = .tuple #[.string t, .bool c] ∧ (c = true → t.data.toList = l ∧ l.length ≤ 60) ∧ t.size ≤ 60 := by
  by_cases h : l.length ≤ 60
  · exact ⟨bstr l, true, toldV_yes h, (fun _ => ⟨rfl, h⟩), by rw [bstr_size]; exact h⟩
  · exact ⟨ByteArray.empty, false, toldV_no h, (fun h => by cases h), by decide⟩
theorem act_size (b : List UInt8) (l : List UInt8) (hl : l.length ≤ 60) : ((actL b l).getD []).length ≤ 60 := by
  cases h : actL b l with
  | none => exact Nat.zero_le _
  | some r => exact actL_len b l r hl h

end Go.Proofs.Ytaaeiogdhmiaaaa

/- A slice of strings that came in, and its copy. -/

namespace Go.Proofs.Ytaaeiogdhmiaaaa
open Go.RowKit

/-- The slice at a of n cells holds the strings zs. -/
structure IsStrs (w : World) (a : Option Addr) (n : Nat) (zs : List ByteArray) : Prop where
  len : zs.length = n
  max : n ≤ maxLen
  at_ : StrsAt w a zs
theorem strsAt_new (w : World) (a : Option Addr) (len : Nat) (ss : List ByteArray) (x : Addr) (ha : a = some x) (hl : len ≤ ss.length) (hc : ∀ i, i < ss.length → w.cell? (x.add i) = some (.string (ss.getD i ByteArray.empty))) (hm : ∀ s ∈ ss, s.size ≤ maxLen) : StrsAt w a (ss.take len) :=
  ⟨fun h0 => ⟨x, ha, by
      have := hc 0 (by simp at h0; omega)
      have h := World.block_lt_of_cell? _ _ this
      rw [addr_add_block] at h
      exact h, fun i hi => by
      simp only [List.length_take] at hi
      have := hc i (by omega)
      rw [List.getElem_take]
      rw [List.getD_eq_getElem?_getD, List.getElem?_eq_getElem (by omega)] at this
      exact this⟩, fun s hs => hm s (List.mem_of_mem_take hs)⟩

theorem strsAt_of_owns {w : World} {base g cap n : Nat} {e : TypeId} {zs : List ByteArray} (hn : zs.length = n) (h : w.ownsRow base e 1 (.slice (some ⟨g, 0, none⟩) n cap) n (strsV zs)) (hm : ∀ s ∈ zs, s.size ≤ maxLen) :
    StrsAt w (some ⟨g, 0, none⟩) zs ∧ g < w.heap.size ∧ ∀ i (h : i < zs.length), w.cell? ⟨g, i, none⟩ = some (.string zs[i]) := by
  have hg : g < w.heap.size := by
    rcases h.2 with ⟨h, _⟩ | ⟨g1, cap1, cur, h1, _, hgb, _⟩
    · cases h
    · cases h1; exact (Array.getElem?_eq_some_iff.1 hgb).1
  have hc : ∀ i (h : i < zs.length), w.cell? ⟨g, i, none⟩ = some (.string zs[i]) := fun i hi => by
    rw [h.cellAt i (by omega)]
    simp [strsV, hi]
  refine ⟨⟨fun _ => ⟨_, rfl, hg, fun i hi => ?_⟩, hm⟩, hg, hc⟩
  have e1 : (⟨g, 0, none⟩ : Addr).add i = ⟨g, i, none⟩ := by unfold Addr.add; split <;> simp_all
  rw [e1]; exact hc i hi

end Go.Proofs.Ytaaeiogdhmiaaaa

/-
  Proves 'Rows.FnExactBraidTimesSaid': for every two values of type Braid, the program's BraidTimes answers as the model's BraidTimes.
  Conditions: none beyond the row's own.
-/
import Derived.Test.YtaaeiogdhmiaaaaRows
import Derived.Test.YtaaeiogdhmiaaaaKf
import Derived.Test.YtaaeiogdhmiaaaaKl
import Derived.Test.YtaaeiogdhmiaaaaCp
import Derived.WalkKit
import Derived.ProofKit
import Derived.OpenShut
import Derived.ShutString
import Derived.ChangeOld
import Derived.Below
namespace Go.Proofs.Ytaaeiogdhmiaaaa.LBraidTimes
open Go.ChangeShapes Go.WideShapes Go.ChangeAt Go.RowKit
open Go.ChangeMaps (open_string shut_string)
set_option linter.unusedVariables false

theorem own : ownKnob Try.prog.godebug = none := by kernel_rfl
theorem laidOut : laidOutB Try.prog = true := by kernel_rfl

/-- The boxes of two braids. -/
theorem twoBraids {w W : World} {nA nB : Int} {sA sB : ByteArray} {t : TypeId} (hW : (w.alloc (.cells #[.int .i64 nA, .string sA] t)).alloc (.cells #[.int .i64 nB, .string sB] t) = W) :
    Below w.heap.size w W ∧ W.heap.size = w.heap.size + 2 ∧ W.heap[w.heap.size]? = some (.cells #[.int .i64 nA, .string sA] t (0, 0)) ∧ W.heap[w.heap.size + 1]? = some (.cells #[.int .i64 nB, .string sB] t (0, 0)) := by
  subst hW
  refine ⟨((Below.refl _ w).alloc (Nat.le_refl _) _).alloc (by simp) _, by simp, ?_, ?_⟩
  · rw [Below.heap_alloc _ _ _ (by simp)]; exact World.alloc_heap_new w _
  · have h := World.alloc_heap_new (w.alloc (.cells #[.int .i64 nA, .string sA] t)) (.cells #[.int .i64 nB, .string sB] t)
    rw [World.size_alloc] at h; exact h

set_option maxRecDepth 100000 in
set_option maxHeartbeats 2000000 in
theorem walk (n0 : Int) (s0 : ByteArray) (n1 : Int) (s1 : ByteArray) (w : World) (b0 : -9223372036854775808 ≤ n0 ∧ n0 ≤ 9223372036854775807) (w0 : s0.size ≤ maxLen) (b1 : -9223372036854775808 ≤ n1 ∧ n1 ≤ 9223372036854775807) (w1 : s1.size ≤ maxLen) :
    Calls Try.prog 4 #[.agg #[.int .i64 n0, .string s0], .agg #[.int .i64 n1, .string s1]] w fun e w' => e = .returned (.bool true) ∧ Below w.heap.size w w' := by
  have HS0 := Lib.hid w0
  have HS1 := Lib.hid w1
  clear b0 b1
  obtain ⟨W, hW⟩ : ∃ W, (w.alloc (.cells #[.int .i64 n0, .string s0] 23)).alloc (.cells #[.int .i64 n1, .string s1] 23) = W := ⟨_, rfl⟩
  have HX := Lib.hid (twoBraids hW)
  have HW := Lib.hid hW
  clear hW w0 w1
  obtain ⟨⟨c0, c1⟩, _, _⟩ := boxOf2 HX.out.2.2.1 (Below.refl _ W)
  by_cases hlong : s0.size ≤ 1048576
  · obtain ⟨k, hk⟩ : ∃ k : Nat, 1048576 - s0.size = k := ⟨_, rfl⟩
    have hneg : ¬ (k : Int) < 0 := by omega
    have hnd : decide ((k : Int) < 0) = false := decide_eq_false hneg
    have hkb : k ≤ 1048576 := by omega
    have HK0 := Lib.hid hk
    clear hk
    by_cases hl1 : s1.size ≤ k
    · obtain ⟨k1, hk1⟩ : ∃ k1 : Nat, k - s1.size = k1 := ⟨_, rfl⟩
      have hneg1 : ¬ (k1 : Int) < 0 := by omega
      have hnd1 : decide ((k1 : Int) < 0) = false := decide_eq_false hneg1
      have HKK1 := Lib.hid hk1
      clear hk1
      obtain ⟨bq, hbq⟩ : ∃ b, timesB n0 s0 n1 s1 = b := ⟨_, rfl⟩
      obtain ⟨m, t, hmt⟩ := brR_shape (timesB n0 s0 n1 s1) n0 (s0 ++ s1)
      have hsc := fun W : World => sBraidTimes_any n0 n1 s0 s1 W HS0.out HS1.out
      have hic := fun W : World => iBraidTimes_any n0 n1 s0 s1 W HS0.out HS1.out
      rw [hmt, hbq] at hsc hic
      have HSC := Lib.hid hsc
      have HIC := Lib.hid hic
      clear hsc hic hmt hbq
      have hbb : (bq != bq) = false := by cases bq <;> rfl
      go_enter Try.func4, Try.ntmps4
      go_wp2_with fail
      rw [HW.out]
      refine (szBraid_yes n0 s0 1048576 W (by omega) hlong).mono ?_
      rw [HK0.out]
      rintro e w1 ⟨rfl, hb1⟩
      have HK1 := Lib.hid hb1
      clear c0 c1 hb1
      obtain ⟨⟨e0, e1⟩, _, _⟩ := boxOf2 HX.out.2.2.2 (HK1.out)
      go_wp2_with fail
      refine (szBraid_yes n1 s1 k w1 hkb hl1).mono ?_
      rw [HKK1.out]
      rintro e w2 ⟨rfl, hb2⟩
      have HK2 := Lib.hid (HK1.out.trans (hb2.mono HK1.out.size))
      clear e0 e1 hb2
      obtain ⟨⟨c0, c1⟩, _, _⟩ := boxOf2 HX.out.2.2.1 (HK2.out)
      obtain ⟨⟨e0, e1⟩, _, _⟩ := boxOf2 HX.out.2.2.2 (HK2.out)
      have hsW := HX.out.2.1
      have hs2 := HK2.out.size
      have hlt1 : w.heap.size + 1 < w2.heap.size := by omega
      have HLT := Lib.hid hlt1
      have m1 := two_aheadB hlt1
      obtain ⟨m1, m2, m3, m4, m5, m6⟩ := m1
      clear hsW hs2 hlt1
      have HBk := Lib.hid (Below.refl w2.heap.size w2)
      obtain ⟨k0, k1⟩ : w2.cell? ⟨w.heap.size, 0, none⟩ = some (.int .i64 n0) ∧ w2.cell? ⟨w.heap.size, 1, none⟩ = some (.string s0) := ⟨c0, c1⟩
      obtain ⟨k2, k3⟩ : w2.cell? ⟨w.heap.size + 1, 0, none⟩ = some (.int .i64 n1) ∧ w2.cell? ⟨w.heap.size + 1, 1, none⟩ = some (.string s1) := ⟨e0, e1⟩
      clear c0 c1 e0 e1
      go_upto_region 8 with fail
      go_cut [6, 7] (fun s1 s2 wx => AnsB w2 wx s1 s2 m t bq)
      case first =>
       go_region_held3 (fun w' : World => w'.cell? ⟨w.heap.size, 0, none⟩ = some (.int .i64 n0) ∧ w'.cell? ⟨w.heap.size, 1, none⟩ = some (.string s0) ∧ w'.cell? ⟨w.heap.size + 1, 0, none⟩ = some (.int .i64 n1) ∧ w'.cell? ⟨w.heap.size + 1, 1, none⟩ = some (.string s1)) (first | go_keep | exact ⟨k0, k1, k2, k3⟩)
        (first
        | (go_at_call 24
           with_reducible refine (toBraid_any n0 s0 _).mono ?_
           rintro e V ⟨rfl, hbv⟩
           have hbn : Below w2.heap.size w2 V := by
             first
             | exact HBk.out.trans (hbv.mono HBk.out.size)
             | exact HBk.out.drew.trans (hbv.mono HBk.out.size)
             | exact belowE_alloc HBk.out HBk.out.size hbv
             | exact belowE_drewAlloc HBk.out HBk.out.size hbv
           first
           | (have HZ : Hid (BoxE V w2.heap.size) := Lib.hid (BoxE.of (w := w2.drew) hbv); have HZL := Lib.hid (Nat.le_refl w2.heap.size); obtain ⟨_, y0, y1, y2, y3⟩ := HZ.out)
           | (have HZ : Hid (BoxE V w2.heap.size) := Lib.hid (BoxE.ofd (w := w2) hbv); have HZL := Lib.hid (Nat.le_refl w2.heap.size); obtain ⟨_, y0, y1, y2, y3⟩ := HZ.out)
           | (have HZ := Lib.hid (BoxE.of hbv); have HZL := Lib.hid HBk.out.size; obtain ⟨_, y0, y1, y2, y3⟩ := HZ.out)
           | (have HZ' := Lib.hid (HZ.out.below hbv); clear HZ y0 y1 y2 y3; have HZ := HZ'; clear HZ'; obtain ⟨_, y0, y1, y2, y3⟩ := HZ.out)
           | skip
           obtain ⟨o1, o2, o3, o4, o5, o6⟩ := two_aheadB (Nat.lt_of_lt_of_le HLT.out hbn.size)
           clear HBk
           have HBk := Lib.hid hbn
           obtain ⟨⟨k0, k1⟩, _, _⟩ := boxOf2 HX.out.2.2.1 (HK2.out.trans (hbn.mono HK2.out.size))
           obtain ⟨⟨k2, k3⟩, _, _⟩ := boxOf2 HX.out.2.2.2 (HK2.out.trans (hbn.mono HK2.out.size))
           clear hbv hbn)
        | (go_at_call 24
           with_reducible refine (toBraid_any n1 s1 _).mono ?_
           rintro e V ⟨rfl, hbv⟩
           have hbn : Below w2.heap.size w2 V := by
             first
             | exact HBk.out.trans (hbv.mono HBk.out.size)
             | exact HBk.out.drew.trans (hbv.mono HBk.out.size)
             | exact belowE_alloc HBk.out HBk.out.size hbv
             | exact belowE_drewAlloc HBk.out HBk.out.size hbv
           first
           | (have HZ : Hid (BoxE V w2.heap.size) := Lib.hid (BoxE.of (w := w2.drew) hbv); have HZL := Lib.hid (Nat.le_refl w2.heap.size); obtain ⟨_, y0, y1, y2, y3⟩ := HZ.out)
           | (have HZ : Hid (BoxE V w2.heap.size) := Lib.hid (BoxE.ofd (w := w2) hbv); have HZL := Lib.hid (Nat.le_refl w2.heap.size); obtain ⟨_, y0, y1, y2, y3⟩ := HZ.out)
           | (have HZ := Lib.hid (BoxE.of hbv); have HZL := Lib.hid HBk.out.size; obtain ⟨_, y0, y1, y2, y3⟩ := HZ.out)
           | (have HZ' := Lib.hid (HZ.out.below hbv); clear HZ y0 y1 y2 y3; have HZ := HZ'; clear HZ'; obtain ⟨_, y0, y1, y2, y3⟩ := HZ.out)
           | skip
           obtain ⟨o1, o2, o3, o4, o5, o6⟩ := two_aheadB (Nat.lt_of_lt_of_le HLT.out hbn.size)
           clear HBk
           have HBk := Lib.hid hbn
           obtain ⟨⟨k0, k1⟩, _, _⟩ := boxOf2 HX.out.2.2.1 (HK2.out.trans (hbn.mono HK2.out.size))
           obtain ⟨⟨k2, k3⟩, _, _⟩ := boxOf2 HX.out.2.2.2 (HK2.out.trans (hbn.mono HK2.out.size))
           clear hbv hbn)
        | (go_at_call 26
           with_reducible refine (HSC.out _).mono ?_
           rintro e V ⟨rfl, hbv⟩
           have hbn : Below w2.heap.size w2 V := by
             first
             | exact HBk.out.trans (hbv.mono HBk.out.size)
             | exact HBk.out.drew.trans (hbv.mono HBk.out.size)
             | exact belowE_alloc HBk.out HBk.out.size hbv
             | exact belowE_drewAlloc HBk.out HBk.out.size hbv
           first
           | (have HZ : Hid (BoxE V w2.heap.size) := Lib.hid (BoxE.of (w := w2.drew) hbv); have HZL := Lib.hid (Nat.le_refl w2.heap.size); obtain ⟨_, y0, y1, y2, y3⟩ := HZ.out)
           | (have HZ : Hid (BoxE V w2.heap.size) := Lib.hid (BoxE.ofd (w := w2) hbv); have HZL := Lib.hid (Nat.le_refl w2.heap.size); obtain ⟨_, y0, y1, y2, y3⟩ := HZ.out)
           | (have HZ := Lib.hid (BoxE.of hbv); have HZL := Lib.hid HBk.out.size; obtain ⟨_, y0, y1, y2, y3⟩ := HZ.out)
           | (have HZ' := Lib.hid (HZ.out.below hbv); clear HZ y0 y1 y2 y3; have HZ := HZ'; clear HZ'; obtain ⟨_, y0, y1, y2, y3⟩ := HZ.out)
           | skip
           obtain ⟨o1, o2, o3, o4, o5, o6⟩ := two_aheadB (Nat.lt_of_lt_of_le HLT.out hbn.size)
           clear HBk
           have HBk := Lib.hid hbn
           obtain ⟨⟨k0, k1⟩, _, _⟩ := boxOf2 HX.out.2.2.1 (HK2.out.trans (hbn.mono HK2.out.size))
           obtain ⟨⟨k2, k3⟩, _, _⟩ := boxOf2 HX.out.2.2.2 (HK2.out.trans (hbn.mono HK2.out.size))
           clear hbv hbn))
       all_goals (go_wp2_with fail; go_meet)
       all_goals first
        | exact ansBA HBk.out
        | exact ansBC HBk.out HZ.out HZL.out
      case rest =>
      obtain ⟨j3, hs1, hs2, hbox3, hj3, hb3⟩ := hcut
      subst hs1
      subst hs2
      clear HBk k0 k1 k2 k3 m1 m2 m3 m4 m5 m6
      obtain ⟨w3, hwq⟩ : ∃ X, wc = X := ⟨_, rfl⟩
      rw [hwq] at hbox3 hb3 ⊢
      clear hwq
      have HQ3 := Lib.hid hbox3
      have HK3 := Lib.hid (HK2.out.trans (hb3.mono HK2.out.size))
      have hlt3 : w.heap.size + 1 < w3.heap.size := Nat.lt_of_lt_of_le HLT.out hb3.size
      have HLT3 := Lib.hid hlt3
      obtain ⟨m1, m2, m3, m4, m5, m6⟩ := two_aheadB hlt3
      clear hb3 hbox3 hlt3
      have HBk := Lib.hid (Below.refl w3.heap.size w3)
      obtain ⟨⟨k0, k1⟩, _, _⟩ := boxOf2 HX.out.2.2.1 HK3.out
      obtain ⟨⟨k2, k3⟩, _, _⟩ := boxOf2 HX.out.2.2.2 HK3.out
      go_upto_region 9 with fail
      go_cut [8, 9] (fun s1 s2 wx => AnsB w3 wx s1 s2 m t bq)
      case first =>
       go_region_held3 (fun w' : World => w'.cell? ⟨w.heap.size, 0, none⟩ = some (.int .i64 n0) ∧ w'.cell? ⟨w.heap.size, 1, none⟩ = some (.string s0) ∧ w'.cell? ⟨w.heap.size + 1, 0, none⟩ = some (.int .i64 n1) ∧ w'.cell? ⟨w.heap.size + 1, 1, none⟩ = some (.string s1)) (first | go_keep | exact ⟨k0, k1, k2, k3⟩)
        (first
        | (go_at_call 24
           with_reducible refine (toBraid_any n0 s0 _).mono ?_
           rintro e V ⟨rfl, hbv⟩
           have hbn : Below w3.heap.size w3 V := by
             first
             | exact HBk.out.trans (hbv.mono HBk.out.size)
             | exact HBk.out.drew.trans (hbv.mono HBk.out.size)
             | exact belowE_alloc HBk.out HBk.out.size hbv
             | exact belowE_drewAlloc HBk.out HBk.out.size hbv
           first
           | (have HZ : Hid (BoxE V w3.heap.size) := Lib.hid (BoxE.of (w := w3.drew) hbv); have HZL := Lib.hid (Nat.le_refl w3.heap.size); obtain ⟨_, y0, y1, y2, y3⟩ := HZ.out)
           | (have HZ : Hid (BoxE V w3.heap.size) := Lib.hid (BoxE.ofd (w := w3) hbv); have HZL := Lib.hid (Nat.le_refl w3.heap.size); obtain ⟨_, y0, y1, y2, y3⟩ := HZ.out)
           | (have HZ := Lib.hid (BoxE.of hbv); have HZL := Lib.hid HBk.out.size; obtain ⟨_, y0, y1, y2, y3⟩ := HZ.out)
           | (have HZ' := Lib.hid (HZ.out.below hbv); clear HZ y0 y1 y2 y3; have HZ := HZ'; clear HZ'; obtain ⟨_, y0, y1, y2, y3⟩ := HZ.out)
           | skip
           obtain ⟨o1, o2, o3, o4, o5, o6⟩ := two_aheadB (Nat.lt_of_lt_of_le HLT3.out hbn.size)
           clear HBk
           have HBk := Lib.hid hbn
           obtain ⟨⟨k0, k1⟩, _, _⟩ := boxOf2 HX.out.2.2.1 (HK3.out.trans (hbn.mono HK3.out.size))
           obtain ⟨⟨k2, k3⟩, _, _⟩ := boxOf2 HX.out.2.2.2 (HK3.out.trans (hbn.mono HK3.out.size))
           clear hbv hbn)
        | (go_at_call 24
           with_reducible refine (toBraid_any n1 s1 _).mono ?_
           rintro e V ⟨rfl, hbv⟩
           have hbn : Below w3.heap.size w3 V := by
             first
             | exact HBk.out.trans (hbv.mono HBk.out.size)
             | exact HBk.out.drew.trans (hbv.mono HBk.out.size)
             | exact belowE_alloc HBk.out HBk.out.size hbv
             | exact belowE_drewAlloc HBk.out HBk.out.size hbv
           first
           | (have HZ : Hid (BoxE V w3.heap.size) := Lib.hid (BoxE.of (w := w3.drew) hbv); have HZL := Lib.hid (Nat.le_refl w3.heap.size); obtain ⟨_, y0, y1, y2, y3⟩ := HZ.out)
           | (have HZ : Hid (BoxE V w3.heap.size) := Lib.hid (BoxE.ofd (w := w3) hbv); have HZL := Lib.hid (Nat.le_refl w3.heap.size); obtain ⟨_, y0, y1, y2, y3⟩ := HZ.out)
           | (have HZ := Lib.hid (BoxE.of hbv); have HZL := Lib.hid HBk.out.size; obtain ⟨_, y0, y1, y2, y3⟩ := HZ.out)
           | (have HZ' := Lib.hid (HZ.out.below hbv); clear HZ y0 y1 y2 y3; have HZ := HZ'; clear HZ'; obtain ⟨_, y0, y1, y2, y3⟩ := HZ.out)
           | skip
           obtain ⟨o1, o2, o3, o4, o5, o6⟩ := two_aheadB (Nat.lt_of_lt_of_le HLT3.out hbn.size)
           clear HBk
           have HBk := Lib.hid hbn
           obtain ⟨⟨k0, k1⟩, _, _⟩ := boxOf2 HX.out.2.2.1 (HK3.out.trans (hbn.mono HK3.out.size))
           obtain ⟨⟨k2, k3⟩, _, _⟩ := boxOf2 HX.out.2.2.2 (HK3.out.trans (hbn.mono HK3.out.size))
           clear hbv hbn)
        | (go_at_call 27
           with_reducible refine (HIC.out _).mono ?_
           rintro e V ⟨rfl, hbv⟩
           have hbn : Below w3.heap.size w3 V := by
             first
             | exact HBk.out.trans (hbv.mono HBk.out.size)
             | exact HBk.out.drew.trans (hbv.mono HBk.out.size)
             | exact belowE_alloc HBk.out HBk.out.size hbv
             | exact belowE_drewAlloc HBk.out HBk.out.size hbv
           first
           | (have HZ : Hid (BoxE V w3.heap.size) := Lib.hid (BoxE.of (w := w3.drew) hbv); have HZL := Lib.hid (Nat.le_refl w3.heap.size); obtain ⟨_, y0, y1, y2, y3⟩ := HZ.out)
           | (have HZ : Hid (BoxE V w3.heap.size) := Lib.hid (BoxE.ofd (w := w3) hbv); have HZL := Lib.hid (Nat.le_refl w3.heap.size); obtain ⟨_, y0, y1, y2, y3⟩ := HZ.out)
           | (have HZ := Lib.hid (BoxE.of hbv); have HZL := Lib.hid HBk.out.size; obtain ⟨_, y0, y1, y2, y3⟩ := HZ.out)
           | (have HZ' := Lib.hid (HZ.out.below hbv); clear HZ y0 y1 y2 y3; have HZ := HZ'; clear HZ'; obtain ⟨_, y0, y1, y2, y3⟩ := HZ.out)
           | skip
           obtain ⟨o1, o2, o3, o4, o5, o6⟩ := two_aheadB (Nat.lt_of_lt_of_le HLT3.out hbn.size)
           clear HBk
           have HBk := Lib.hid hbn
           obtain ⟨⟨k0, k1⟩, _, _⟩ := boxOf2 HX.out.2.2.1 (HK3.out.trans (hbn.mono HK3.out.size))
           obtain ⟨⟨k2, k3⟩, _, _⟩ := boxOf2 HX.out.2.2.2 (HK3.out.trans (hbn.mono HK3.out.size))
           clear hbv hbn))
       all_goals (go_wp2_with fail; go_meet)
       all_goals first
        | exact ansBA HBk.out
        | exact ansBC HBk.out HZ.out HZL.out
      case rest =>
      obtain ⟨j4, hs1, hs2, hbox4, hj4, hb4⟩ := hcut
      subst hs1
      subst hs2
      clear HBk k0 k1 k2 k3 m1 m2 m3 m4 m5 m6
      obtain ⟨w4, hwq⟩ : ∃ X, wc = X := ⟨_, rfl⟩
      rw [hwq] at hbox4 hb4 ⊢
      clear hwq
      obtain ⟨_, d0, d1⟩ := hbox4
      have hblk := hb4.block j3 HQ3.out.1
      have c0 : w4.cell? ⟨j3, 0, none⟩ = some (.int .i64 m) := by rw [← HQ3.out.2.1]; simp [World.cell?, hblk]
      have c1 : w4.cell? ⟨j3, 1, none⟩ = some (.string t) := by rw [← HQ3.out.2.2]; simp [World.cell?, hblk]
      have HK4 := Lib.hid (HK3.out.trans (hb4.mono HK3.out.size))
      clear hblk hb4
      go_wp2_with fail
      refine (eqBraid_yes m t w4).mono ?_
      rintro e w8 ⟨rfl, hb8⟩
      have HK8 := Lib.hid (HK4.out.trans (hb8.mono HK4.out.size))
      clear hb8 d0 d1 c0 c1
      go_wp2
      go_ret
      exact ⟨rfl, HX.out.1.trans (HK8.out.mono HX.out.1.size)⟩
    · have hs := HS1.out
      go_enter Try.func4, Try.ntmps4
      go_wp2_with fail
      rw [HW.out]
      refine (szBraid_yes n0 s0 1048576 W (by omega) hlong).mono ?_
      rw [HK0.out]
      rintro e w1 ⟨rfl, hb1⟩
      have HK1 := Lib.hid hb1
      clear c0 c1 hb1
      obtain ⟨⟨e0, e1⟩, _, _⟩ := boxOf2 HX.out.2.2.2 (HK1.out)
      go_wp2_with fail
      refine (szBraid_no n1 s1 k w1 hkb hs (by omega)).mono ?_
      rintro e w2 ⟨rfl, hb2⟩
      have HK2 := Lib.hid (HK1.out.trans (hb2.mono HK1.out.size))
      clear hb2 e0 e1
      go_wp2
      go_ret
      exact ⟨rfl, HX.out.1.trans (HK2.out.mono HX.out.1.size)⟩
  · have hs := HS0.out
    go_enter Try.func4, Try.ntmps4
    go_wp2_with fail
    rw [HW.out]
    refine (szBraid_no n0 s0 1048576 W (by omega) hs (by omega)).mono ?_
    rintro e w1 ⟨rfl, hb1⟩
    clear c0 c1
    have HK := Lib.hid hb1
    clear hb1
    go_wp2
    go_ret
    exact ⟨rfl, HX.out.1.trans (HK.out.mono HX.out.1.size)⟩

set_option maxRecDepth 100000 in
theorem lifted (os : Os) (started : os.Started) (H : Type) (enc : TypeId × Value → H) :
    ReturnsInHanded {} Try.checked os 4 .any (Rows.fnExactBraidTimesSpec.pre6 enc Try.prog Try.f4 Rows.fnExactBraidTimesRow.domain false) (Rows.fnExactBraidTimesSpec.post enc Try.prog Try.f4 false true false false) := by
  refine returnsInHanded_of_change (C := Try.checked) own started (by kernel_rfl) Try.func4
    (ChangeSpec.witness6 (enc := enc) (C := Try.checked) false ⟨#[], #[.agg #[.int .i64 0, .string ByteArray.empty], .agg #[.int .i64 0, .string ByteArray.empty]], []⟩ 8 (by kernel_rfl) (by kernel_rfl) (by kernel_rfl) (by kernel_rfl)) ?_
  intro W base args ds gs before hval0 hW hcnd _
  have hval : ∀ (j : Nat) t v, Try.f4.params[j]? = some t → args[j]? = some v → Value.okWide Try.prog W .any base t v := hval0
  have hW' := hW
  obtain ⟨p, q, hA0, hV, rfl, hfz, hnd⟩ := hW
  have hA : DataW.TrodAll enc Try.prog W 0 (fun _ => true) true Try.f4.params.toList args.toList ds p := hA0
  rw [Try.params4] at hA hval
  obtain ⟨v0, vs0, d0, ds0, p0, q0, hargs, rfl, rfl, h0, r0⟩ := trodAll_cons hA
  obtain ⟨v1, vs1, d1, ds1, p1, q1, rfl, rfl, rfl, h1, r1⟩ := trodAll_cons r0
  obtain ⟨rfl, rfl, rfl⟩ := trodAll_nil r1
  obtain rfl : args = #[v0, v1] := by cases args; simp_all
  obtain ⟨rfl, rfl⟩ := trodVars_none hV
  obtain ⟨cs0, rfl, _⟩ := okWide_struct Try.underlying23 (hval 0 23 v0 rfl rfl)
  have k0 := h0
  have lt0 : ∀ x ∈ p0, x.block < W.heap.size := by obtain ⟨m, hm⟩ := k0; exact DataW.trod_lt m _ _ _ hm
  obtain ⟨n0, s0, rfl, b0, w0⟩ : ∃ (n : Int) (s : ByteArray), cs0 = #[.int .i64 n, .string s] ∧ (-9223372036854775808 ≤ n ∧ n ≤ 9223372036854775807) ∧ s.size ≤ maxLen := by
    obtain ⟨fuel, hf⟩ := h0
    exact braid_of hf
  obtain ⟨cs1, rfl, _⟩ := okWide_struct Try.underlying23 (hval 1 23 v1 rfl rfl)
  have k1 := h1
  have lt1 : ∀ x ∈ p1, x.block < W.heap.size := by obtain ⟨m, hm⟩ := k1; exact DataW.trod_lt m _ _ _ hm
  obtain ⟨n1, s1, rfl, b1, w1⟩ : ∃ (n : Int) (s : ByteArray), cs1 = #[.int .i64 n, .string s] ∧ (-9223372036854775808 ≤ n ∧ n ≤ 9223372036854775807) ∧ s.size ≤ maxLen := by
    obtain ⟨fuel, hf⟩ := h1
    exact braid_of hf
  clear hA0 hval0
  refine (walk n0 s0 n1 s1 W b0 w0 b1 w1).mono fun e W' ⟨he, bel⟩ => ?_
  subst he
  exact ⟨_, rfl, _, _, _, [], _, [], hW', trodAll_mk1 (shut_bool Try.underlying4 _), (trodAll_cons_mk (Below.trod laidOut (by kernel_rfl) (of_decide_eq_true (by kernel_rfl)) k0 bel lt0) (trodAll_cons_mk (Below.trod laidOut (by kernel_rfl) (of_decide_eq_true (by kernel_rfl)) k1 bel lt1) trodAll_mk0)), rfl, bel.frame _, fun h => by cases h⟩

theorem closed : joinedFacts Try.prog 4 Try.f4 Rows.fnExactBraidTimesSpec Rows.fnExactBraidTimesRow = true :=
  ((restOf Try.prog 4 Try.f4 Rows.fnExactBraidTimesSpec Rows.fnExactBraidTimesRow).2 enter_is lifts_is make_is).trans (by kernel_rfl)
theorem over : Rows.fnExactBraidTimesRow.holds Try.pinned (OpenSpec.ofChange Rows.fnExactBraidTimesSpec) := by
  first
  | exact OpenClaim.holds_of_wide_leaving 4 Try.f4 rfl rfl rfl rfl rfl rfl rfl ⟨rfl, rfl, rfl, rfl, rfl⟩ rfl rfl rfl rfl rfl (by kernel_rfl) Try.func4 closed
      (of_decide_eq_true (by kernel_rfl)) (by unfold Func.isWrapper; first | (rw [if_pos (by decide +kernel)]; kernel_rfl) | (rw [if_neg (by decide +kernel)]; exact ⟨rfl, rfl⟩))
      (fun os started H enc _ => leaving_of_handed (lifted os started H enc))
  | exact OpenClaim.holds_of_wide 4 Try.f4 rfl rfl rfl rfl rfl rfl rfl ⟨rfl, rfl, rfl, rfl, rfl⟩ rfl rfl rfl rfl rfl (by kernel_rfl) Try.func4 closed
      (of_decide_eq_true (by kernel_rfl)) (by unfold Func.isWrapper; first | (rw [if_pos (by decide +kernel)]; kernel_rfl) | (rw [if_neg (by decide +kernel)]; exact ⟨rfl, rfl⟩))
      (fun os started H enc _ => lifted os started H enc)

theorem proved : Rows.FnExactBraidTimesSaid := over
#print axioms proved
end Go.Proofs.Ytaaeiogdhmiaaaa.LBraidTimes

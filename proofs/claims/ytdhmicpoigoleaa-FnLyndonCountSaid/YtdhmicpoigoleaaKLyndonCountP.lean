/-
  Proves 'Rows.FnLyndonCountSaid': for every list of bytes, for the two numbers that the model draws from it, the counts over divisors, each times its divisor, add up to the power.
  Conditions: none beyond the row's own.
-/
import Derived.Test.YtdhmicpoigoleaaRows
import Derived.WalkKit
import Derived.ProofKit
import Derived.OpenShut
import Derived.ShutString
import Derived.ChangeOld
import Derived.Below
import Derived.Test.YtdhmicpoigoleaaBa
import Derived.Test.YtdhmicpoigoleaaBb
import Derived.Test.YtdhmicpoigoleaaBc

namespace Go.Proofs.Ytdhmicpoigoleaa.LLyndonCountP
open Go.ChangeShapes Go.WideShapes Go.ChangeAt Go.RowKit
open Go.ChangeMaps (open_string shut_string)
set_option linter.unusedVariables false

theorem own : ownKnob Try.prog.godebug = none := by kernel_rfl
theorem laidOut : laidOutB Try.prog = true := by kernel_rfl

def sumD (k n : Nat) : Nat → Int
  | 0 => 0
  | m + 1 => if n % (m + 1) = 0 then sumD k n m + ((m : Int) + 1) * countI k (m + 1) else sumD k n m
theorem count_all : ∀ (k : Fin 5) (n : Fin 13), 0 ≤ countI k.val n.val ∧ countI k.val n.val ≤ 16777216 ∧ (n.val = 0 ∨ sumD k.val n.val n.val = ((k.val ^ n.val : Nat) : Int)) := by decide +kernel
theorem count_le {k n : Nat} (hk : k ≤ 4) (hn : n ≤ 12) : 0 ≤ countI k n ∧ countI k n ≤ 16777216 := ⟨(count_all ⟨k, by omega⟩ ⟨n, by omega⟩).1, (count_all ⟨k, by omega⟩ ⟨n, by omega⟩).2.1⟩
theorem count_sum {k n : Nat} (hk : k ≤ 4) (hn : n ≤ 12) (h1 : 1 ≤ n) : sumD k n n = ((k ^ n : Nat) : Int) := by
  rcases (count_all ⟨k, by omega⟩ ⟨n, by omega⟩).2.2 with h | h
  · have h : n = 0 := h
    omega
  · exact h
theorem times_le (d c : Int) (h1 : 1 ≤ d) (h2 : d ≤ 12) (h3 : 0 ≤ c) (h4 : c ≤ 16777216) : 0 ≤ d * c ∧ d * c ≤ 201326592 := by
  constructor
  · exact Int.mul_nonneg (by omega) h3
  · have := Int.mul_le_mul h2 h4 h3 (by omega : (0 : Int) ≤ 12)
    omega

set_option maxRecDepth 100000 in
set_option maxHeartbeats 4000000 in
theorem walk (a0 : Option Addr) (len0 cap0 : Nat) (z0 : List Int) (w : World) (w0 : BsAt w.heap.size w a0 len0 cap0 z0) :
    Calls Try.prog 11 #[.slice a0 len0 cap0] w fun e w' => e = .returned (.bool true) ∧ Below w.heap.size w w' := by
  have HDr := Lib.hid (drawLyndonCount_any a0 len0 cap0 z0 w w0)
  have hfit := w0.fit
  unfold maxLen at hfit
  clear w0
  by_cases hlong : ¬ len0 ≤ 1048576
  · have hd : decide ((1048576 : Int) < (len0 : Int)) = true := decide_eq_true (by omega)
    go_enter Try.func11, Try.ntmps11
    go_wp2_with fail
    go_ret
    exact ⟨rfl, Below.refl _ _⟩
  have hd : decide ((1048576 : Int) < (len0 : Int)) = false := decide_eq_false (by omega)
  go_enter Try.func11, Try.ntmps11
  go_wp2_with fail
  refine HDr.out.mono ?_
  rintro e w1 ⟨⟨k, n, rfl, hk1, hk4, hn13⟩, hb1⟩
  have HB1 := Lib.hid hb1
  clear hb1
  by_cases hn : ¬ (1 ≤ n ∧ n ≤ 12)
  · have hb : (inR 1 4 (k : Int) && inR 1 12 (n : Int)) = false := by
      unfold inR
      by_cases h : (1 : Int) ≤ (n : Int)
      · rw [decide_eq_true h, decide_eq_false (by omega : ¬ (n : Int) ≤ 12)]; simp
      · rw [decide_eq_false h]; simp
    have HX : Hid (cond (inR 1 4 (k : Int) && inR 1 12 (n : Int)) (countI (k : Int).toNat (n : Int).toNat) 0 = 0) := Lib.hid (by rw [hb]; rfl)
    have HB := Lib.hid hb
    clear hb hn
    go_wp2_with fail
    refine (iLyndonCount_law HX.out HB.out).mono ?_
    rintro e w2 ⟨rfl, hb2⟩
    have HB2 := Lib.hid (HB1.out.trans (hb2.mono HB1.out.size))
    clear hb2
    go_wp2_with fail
    refine (sLyndonCount_law HX.out HB.out).mono ?_
    rintro e w3 ⟨rfl, hb3⟩
    have HB3 := Lib.hid (HB2.out.trans (hb3.mono HB2.out.size))
    clear hb3
    go_wp2
    go_ret
    exact ⟨rfl, HB3.out⟩
  · obtain ⟨hn1, hn2⟩ : 1 ≤ n ∧ n ≤ 12 := Decidable.not_not.1 hn
    have hb : (inR 1 4 (k : Int) && inR 1 12 (n : Int)) = true := by
      unfold inR
      rw [decide_eq_true (by omega : (1 : Int) ≤ (k : Int)), decide_eq_true (by omega : (k : Int) ≤ 4), decide_eq_true (by omega : (1 : Int) ≤ (n : Int)), decide_eq_true (by omega : (n : Int) ≤ 12)]; rfl
    obtain ⟨c, hc⟩ : ∃ c, countI k n = c := ⟨_, rfl⟩
    have HX : Hid (cond (inR 1 4 (k : Int) && inR 1 12 (n : Int)) (countI (k : Int).toNat (n : Int).toNat) 0 = c) := Lib.hid (by rw [hb]; exact hc)
    have HB := Lib.hid hb
    have hc0 : 0 ≤ c := by rw [← hc]; exact (count_le hk4 hn2).1
    clear hb hn hc hn13
    go_wp2_with fail
    refine (iLyndonCount_law HX.out HB.out).mono ?_
    rintro e w2 ⟨rfl, hb2⟩
    have HB2 := Lib.hid (HB1.out.trans (hb2.mono HB1.out.size))
    clear hb2
    go_wp2_with fail
    refine (sLyndonCount_law HX.out HB.out).mono ?_
    rintro e w3 ⟨rfl, hb3⟩
    have HB3 := Lib.hid (HB2.out.trans (hb3.mono HB2.out.size))
    clear hb3
    go_wp2
    go_loopw [9, 10, 11] (fun s y d wr => ∃ (m p : Nat) (x : Int), m ≤ n ∧ d = .int .i64 ((m + 1 : Nat) : Int) ∧ s = .int .i64 x ∧ y = .int .i64 p ∧ p ≤ 16777216 ∧ 0 ≤ x ∧ x ≤ 201326592 * (m : Int) ∧ Hid (k ^ m = p) ∧ Hid (sumD k n m = x) ∧ Below w.heap.size w wr) (fun _ _ d _ => 14 - (intOf d).toNat)
    case atStart => exact ⟨0, 1, 0, Nat.zero_le _, rfl, rfl, rfl, by omega, by omega, by omega, Lib.hid rfl, Lib.hid rfl, HB3.out⟩
    case round =>
      obtain ⟨m, p, x, hm, rfl, rfl, rfl, hp, hx1, hx2, HP, HX2, hB⟩ := hrel
      by_cases hlt : m = n
      · subst hlt
        have hxp : x = (p : Int) := by rw [← HX2.out, ← HP.out]; exact count_sum hk4 hn2 hn1
        subst hxp
        go_wp2
        go_ret
        exact ⟨rfl, hB⟩
      · have hlt1 : (m : Int) + 1 ≤ n := by omega
        have hcast : (n : Int) % ((m : Int) + 1) = ((n % (m + 1) : Nat) : Int) := by push_cast; rfl
        have hm0 : ¬ ((m : Int) + 1) = 0 := by omega
        have hyk : (p : Int) * k = ((p * k : Nat) : Int) := by push_cast; rfl
        have hyk2 : p * k ≤ 67108864 := Nat.le_trans (Nat.mul_le_mul hp hk4) (by decide)
        have hyk3 : p * k ≤ 16777216 := by
          rw [← HP.out, ← Nat.pow_succ]
          exact pow_le k (m + 1) hk4 (by omega)
        obtain ⟨y, hy⟩ : ∃ y, p * k = y := ⟨_, rfl⟩
        rw [hy] at hyk hyk2 hyk3
        have HY : Hid (k ^ (m + 1) = y) := Lib.hid (by rw [Nat.pow_succ, HP.out]; exact hy)
        clear hy
        by_cases hr : n % (m + 1) = 0
        · have hri : (n : Int) % ((m : Int) + 1) = 0 := by rw [hcast, hr]; rfl
          have hre : ((n : Int) % ((m : Int) + 1) == 0) = true := by simp [hri]
          obtain ⟨z, hz⟩ : ∃ z, countI k (m + 1) = z := ⟨_, rfl⟩
          have hz1 := count_le (k := k) (n := m + 1) hk4 (by omega)
          rw [hz] at hz1
          have hs := times_le ((m : Int) + 1) z (by omega) (by omega) hz1.1 hz1.2
          have hb2 : (inR 1 4 (k : Int) && inR 1 12 ((m : Int) + 1)) = true := by
            unfold inR
            rw [decide_eq_true (by omega : (1 : Int) ≤ (k : Int)), decide_eq_true (by omega : (k : Int) ≤ 4), decide_eq_true (by omega : (1 : Int) ≤ (m : Int) + 1), decide_eq_true (by omega : (m : Int) + 1 ≤ 12)]; rfl
          have HZ2 : Hid (cond (inR 1 4 (k : Int) && inR 1 12 ((m : Int) + 1)) (countI (k : Int).toNat ((m : Int) + 1).toNat) 0 = z) := Lib.hid (by rw [hb2]; exact hz)
          have HBB := Lib.hid hb2
          have HR := Lib.hid hr
          have HZ := Lib.hid hz
          clear hr hcast hz hb2
          go_wp2_with fail
          refine (iLyndonCount_law HZ2.out HBB.out).mono ?_
          rintro e w4 ⟨rfl, hb4⟩
          have hB4 : Below w.heap.size w w4 := hB.trans (hb4.mono hB.size)
          clear hb4
          go_wp2
          go_roundw
          case rel =>
            refine ⟨m + 1, y, x + ((m : Int) + 1) * z, by omega, by go_num, by go_num, by go_num, hyk3, by omega, by push_cast; omega, HY, Lib.hid ?_, hB4⟩
            rw [sumD, if_pos HR.out, HX2.out, HZ.out]
          case measure => simp [intOf]; omega
        · have hri : ¬ (n : Int) % ((m : Int) + 1) = 0 := by rw [hcast]; omega
          have hre : ((n : Int) % ((m : Int) + 1) == 0) = false := by simpa using hri
          have HR := Lib.hid hr
          clear hr hcast
          go_wp2
          go_roundw
          case rel =>
            refine ⟨m + 1, y, x, by omega, by go_num, by go_num, by go_num, hyk3, by omega, by push_cast; omega, HY, Lib.hid ?_, hB⟩
            rw [sumD, if_neg HR.out, HX2.out]
          case measure => simp [intOf]; omega

set_option maxRecDepth 100000 in
theorem lifted (os : Os) (started : os.Started) (H : Type) (enc : TypeId × Value → H) :
    ReturnsInHanded {} Try.checked os 11 .any (Rows.fnLyndonCountSpec.pre6 enc Try.prog Try.f11 Rows.fnLyndonCountRow.domain false) (Rows.fnLyndonCountSpec.post enc Try.prog Try.f11 false true false false) := by
  refine returnsInHanded_of_change (C := Try.checked) own started (by kernel_rfl) Try.func11
    (ChangeSpec.witness6 (enc := enc) (C := Try.checked) false ⟨#[], #[.slice none 0 0], []⟩ 8 (by kernel_rfl) (by kernel_rfl) (by kernel_rfl) (by kernel_rfl)) ?_
  intro W base args ds gs before hval0 hW hcnd _
  have hval : ∀ (j : Nat) t v, Try.f11.params[j]? = some t → args[j]? = some v → Value.okWide Try.prog W .any base t v := hval0
  have hW' := hW
  obtain ⟨p, q, hA0, hV, rfl, hfz, hnd⟩ := hW
  have hA : DataW.TrodAll enc Try.prog W 0 (fun _ => true) true Try.f11.params.toList args.toList ds p := hA0
  rw [Try.params11] at hA hval
  obtain ⟨v0, vs0, d0, ds0, p0, q0, hargs, rfl, rfl, h0, r0⟩ := trodAll_cons hA
  obtain ⟨rfl, rfl, rfl⟩ := trodAll_nil r0
  obtain rfl : args = #[v0] := by cases args; simp_all
  obtain ⟨rfl, rfl⟩ := trodVars_none hV
  obtain ⟨a0, len0, cap0, rfl⟩ := okWide_slice Try.underlying39 (hval 0 39 v0 rfl rfl)
  have k0 := h0
  have lt0 : ∀ x ∈ p0, x.block < W.heap.size := by obtain ⟨m, hm⟩ := k0; exact DataW.trod_lt m _ _ _ hm
  obtain ⟨z0, w0⟩ : ∃ zs, BsAt W.heap.size W a0 len0 cap0 zs := by
    obtain ⟨fuel, hf⟩ := h0
    exact bs_of hf
  clear hA0 hval0
  refine (walk a0 len0 cap0 z0 W w0).mono fun e W' ⟨he, bel⟩ => ?_
  subst he
  exact ⟨_, rfl, _, _, _, [], _, [], hW', trodAll_mk1 (shut_bool Try.underlying4 _), (trodAll_cons_mk (Below.trod laidOut (by kernel_rfl) (of_decide_eq_true (by kernel_rfl)) k0 bel lt0) trodAll_mk0), rfl, bel.frame _, fun h => by cases h⟩

theorem over : Rows.fnLyndonCountRow.holds Try.pinned (OpenSpec.ofChange Rows.fnLyndonCountSpec) :=
  OpenClaim.holds_of_wide 11 Try.f11 rfl rfl rfl rfl rfl rfl rfl ⟨rfl, rfl, rfl, rfl, rfl⟩ rfl rfl rfl rfl rfl (by kernel_rfl) Try.func11 (by kernel_rfl)
    (of_decide_eq_true (by kernel_rfl)) (by unfold Func.isWrapper; first | (rw [if_pos (by decide +kernel)]; kernel_rfl) | (rw [if_neg (by decide +kernel)]; exact ⟨rfl, rfl⟩))
    (fun os started H enc _ => lifted os started H enc)

theorem proved : Rows.FnLyndonCountSaid := over
#print axioms proved
end Go.Proofs.Ytdhmicpoigoleaa.LLyndonCountP

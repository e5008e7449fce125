/- Permutations of braids, over lists of numbers: who stands where, who ends where. -/
import Derived.Test.YtaaeiogdhmiaaaaCa
namespace Go.Proofs.Ytaaeiogdhmiaaaa
open Go.RowKit

/-- Who stands at each place, behind an exchange. -/
def swapN (a : List Nat) (k : Nat) : List Nat := (a.set k (a.getD (k + 1) 0)).set (k + 1) (a.getD k 0)
def atF (a : List Nat) (b : List UInt8) : List Nat := b.foldl (fun a c => swapN a (plN c)) a
def atL (n : Nat) (b : List UInt8) : List Nat := atF (List.range n) b
theorem swapN_len (a : List Nat) (k : Nat) : (swapN a k).length = a.length := by simp [swapN]
theorem atF_append (a : List Nat) (b c : List UInt8) : atF a (b ++ c) = atF (atF a b) c := by simp [atF]
theorem atF_len : ∀ (b : List UInt8) (a : List Nat), (atF a b).length = a.length
  | [], a => rfl
  | c :: b, a => by show (atF (swapN a (plN c)) b).length = _; rw [atF_len b, swapN_len]
theorem atL_len (n : Nat) (b : List UInt8) : (atL n b).length = n := by unfold atL; rw [atF_len]; simp
/-- The places of the first k told. -/
def outK (n : Nat) (a : List Nat) (k : Nat) : List Int := (List.range k).foldl (fun o i => o.set (a.getD i 0) (i : Int)) (List.replicate n 0)
theorem outK_zero (n : Nat) (a : List Nat) : outK n a 0 = List.replicate n 0 := rfl
theorem outK_succ (n : Nat) (a : List Nat) (k : Nat) : outK n a (k + 1) = (outK n a k).set (a.getD k 0) (k : Int) := by
  unfold outK; rw [List.range_succ, List.foldl_append]; rfl
theorem outK_len (n : Nat) (a : List Nat) : ∀ k, (outK n a k).length = n
  | 0 => by simp [outK]
  | k + 1 => by rw [outK_succ, List.length_set, outK_len n a k]
def permZ (n : Nat) (b : List UInt8) : List Int := outK n (atL n b) n
theorem permZ_len (n : Nat) (b : List UInt8) : (permZ n b).length = n := outK_len _ _ _

/-! ### All of them -/
def insAll (x : Nat) : List Nat → List (List Nat)
  | [] => [[x]]
  | y :: r => (x :: y :: r) :: (insAll x r).map (y :: ·)
def permsN : Nat → List (List Nat)
  | 0 => [[]]
  | n + 1 => (permsN n).flatMap (insAll n)
theorem swap_all : ∀ n ∈ [2, 3, 4], ∀ a ∈ permsN n, ∀ k ∈ List.range (n - 1), swapN a k ∈ permsN n := by decide +kernel
theorem range_all : ∀ n ∈ [2, 3, 4], List.range n ∈ permsN n := by decide +kernel
theorem small_all : ∀ n ∈ [2, 3, 4], ∀ a ∈ permsN n, a.length = n ∧ ∀ i ∈ List.range n, a.getD i 0 < n := by decide +kernel
theorem mem234 {n : Nat} (h : 2 ≤ n ∧ n ≤ 4) : n ∈ [2, 3, 4] := by simp; omega
theorem atF_mem {n : Nat} (hn : 2 ≤ n ∧ n ≤ 4) : ∀ (b : List UInt8), (∀ c ∈ b, plN c + 1 < n) → ∀ a ∈ permsN n, atF a b ∈ permsN n
  | [], _, a, h => h
  | c :: b, hb, a, h => by
    show atF (swapN a (plN c)) b ∈ _
    exact atF_mem hn b (fun x hx => hb x (by simp [hx])) _ (swap_all n (mem234 hn) a h (plN c) (List.mem_range.2 (by have := hb c (by simp); omega)))
theorem atL_mem {n : Nat} (hn : 2 ≤ n ∧ n ≤ 4) (b : List UInt8) (hb : ∀ c ∈ b, plN c + 1 < n) : atL n b ∈ permsN n := atF_mem hn b hb _ (range_all n (mem234 hn))
theorem at_lt {n : Nat} (hn : 2 ≤ n ∧ n ≤ 4) {a : List Nat} (h : a ∈ permsN n) {i : Nat} (hi : i < n) : a.getD i 0 < n := (small_all n (mem234 hn) a h).2 i (List.mem_range.2 hi)

/-! ### Ways through the places -/
/-- The places that are met from the first one's end on, until the place 0. -/
def iterZ (z : List Int) : Nat → Int
  | 0 => z.getD 0 0
  | j + 1 => z.getD (iterZ z j).toNat 0
/-- How many places the way from 0 back to 0 has. -/
def wayN (z : List Int) : Nat → Nat
  | 0 => 1
  | j + 1 => if iterZ z (3 - j) = 0 then 1 else 1 + wayN z j
/-- How far it is from the place 0 back to it. -/
def backN (z : List Int) : Nat := if iterZ z 0 = 0 then 0 else if iterZ z 1 = 0 then 1 else if iterZ z 2 = 0 then 2 else 3
theorem way_all : ∀ n ∈ [2, 3, 4], ∀ a ∈ permsN n, iterZ (outK n a n) (backN (outK n a n)) = 0 ∧ ∀ j ∈ List.range 4, (0 ≤ iterZ (outK n a n) j ∧ iterZ (outK n a n) j < n) ∧ (j < backN (outK n a n) → iterZ (outK n a n) j ≠ 0) := by decide +kernel
theorem knot_all : ∀ n ∈ [2, 3, 4], ∀ a ∈ permsN n, backN (outK n a n) + 1 = n → ∀ i ∈ List.range n, (outK n a n).getD i 0 ≠ (i : Int) := by decide +kernel
theorem out_all : ∀ n ∈ [2, 3, 4], ∀ a ∈ permsN n, ∀ i ∈ List.range n, 0 ≤ (outK n a n).getD i 0 ∧ (outK n a n).getD i 0 < n := by decide +kernel
def knotB (n : Int) (s : ByteArray) : Bool := braidB n s && decide (backN (permZ n.toNat s.data.toList) + 1 = n.toNat)

/-! ### Parity -/
/-- How often a greater number stands ahead of a less one. -/
def invN (z : List Int) : Nat := ((List.range z.length).map fun i => ((List.range i).filter fun k => decide (z.getD i 0 < z.getD k 0)).length).sum
/-- How many of the first k are greater than that at i. -/
def cntK (z : List Int) (i k : Nat) : Nat := ((List.range k).filter fun q => decide (z.getD i 0 < z.getD q 0)).length
def cntI (z : List Int) (i : Nat) : Nat := ((List.range i).map fun j => cntK z j j).sum
theorem invN_eq (z : List Int) : invN z = cntI z z.length := rfl
theorem cntK_succ (z : List Int) (i k : Nat) : cntK z i (k + 1) = cntK z i k + if z.getD i 0 < z.getD k 0 then 1 else 0 := by
  unfold cntK
  rw [List.range_succ, List.filter_append, List.length_append]
  by_cases h : z.getD i 0 < z.getD k 0
  · rw [if_pos h, List.filter_cons, if_pos (by simpa using h)]; rfl
  · rw [if_neg h, List.filter_cons, if_neg (by simpa using h)]; rfl
theorem cntI_succ (z : List Int) (i : Nat) : cntI z (i + 1) = cntI z i + cntK z i i := by
  unfold cntI; rw [List.range_succ, List.map_append, List.sum_append]; simp
theorem cntK_le (z : List Int) (i : Nat) : ∀ k, cntK z i k ≤ k
  | 0 => by simp [cntK]
  | k + 1 => by rw [cntK_succ]; have := cntK_le z i k; split <;> omega
theorem cntI_le (z : List Int) : ∀ i, i ≤ 4 → cntI z i ≤ 4 * i
  | 0, _ => by simp [cntI]
  | i + 1, h => by rw [cntI_succ]; have := cntI_le z i (by omega); have := cntK_le z i i; omega
theorem par_all : ∀ n ∈ [2, 3, 4], ∀ a ∈ permsN n, ∀ k ∈ List.range (n - 1), (invN (outK n (swapN a k) n) + invN (outK n a n)) % 2 = 1 := by decide +kernel
theorem par_range : ∀ n ∈ [2, 3, 4], invN (outK n (List.range n) n) = 0 := by decide +kernel
theorem par_at {n : Nat} (hn : 2 ≤ n ∧ n ≤ 4) : ∀ (b : List UInt8), (∀ c ∈ b, plN c + 1 < n) → ∀ a ∈ permsN n, ((invN (outK n (atF a b) n) : Int) + invN (outK n a n) + sgSum b) % 2 = 0
  | [], _, a, h => by simp [atF, sgSum]; omega
  | c :: b, hb, a, h => by
    have hk := List.mem_range.2 (show plN c < n - 1 by have := hb c (by simp); omega)
    have ih := par_at hn b (fun x hx => hb x (by simp [hx])) (swapN a (plN c)) (swap_all n (mem234 hn) a h _ hk)
    have hp := par_all n (mem234 hn) a h _ hk
    have hs : sgSum (c :: b) = sgnB c + sgSum b := by simp [sgSum]
    have h1 : sgnB c = 1 ∨ sgnB c = -1 := by unfold sgnB; split <;> simp
    rw [show atF a (c :: b) = atF (swapN a (plN c)) b from rfl, hs]
    omega
theorem par_braid {n : Nat} (hn : 2 ≤ n ∧ n ≤ 4) (b : List UInt8) (hb : ∀ c ∈ b, plN c + 1 < n) : ((invN (permZ n b) : Int) + sgSum b) % 2 = 0 := by
  have := par_at hn b hb _ (range_all n (mem234 hn))
  rw [par_range n (mem234 hn)] at this
  unfold permZ atL
  omega

/-! ### Products -/
def compZ (x y : List Int) : List Int := x.map fun p => y.getD p.toNat 0
theorem comp_all : ∀ n ∈ [2, 3, 4], ∀ a ∈ permsN n, ∀ b ∈ permsN n, ∀ k ∈ List.range (n - 1), outK n (swapN b k) n = compZ (outK n b n) (outK n (swapN (List.range n) k) n) := by decide +kernel

end Go.Proofs.Ytaaeiogdhmiaaaa

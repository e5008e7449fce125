/- What the laws' proofs stand on, part 2 of 4. -/
import Derived.Lib.SliceRun
import Derived.Shelf.RegionOpenPlain
import Derived.Deep.AppendLies
import Derived.Deep.RegionHeld3
import Derived.Deep.DeepCutAuto
import Derived.StillTailTactics
import Derived.StillTail
import Derived.IntWalk
import Derived.RangeFuncBox
import Derived.Laws.BitsAllLaws
import Derived.Deep.QuietTactic
import Derived.BigQuiet
import Derived.ChangeSlices
import Derived.Laws.AppendOwnNone
import Derived.Lib.AppendZerosOnto
import Derived.Test.YtakfobihakbefaaBa

/- The program's within, isNotZero, and slices.IndexFunc and slices.ContainsFunc at them. -/

namespace Go.Proofs.Ytakfobihakbefaa
open Go.RowKit

set_option maxHeartbeats 1000000 in
theorem within_any (n s : Int) (b : Bool) (w : World) (h0 : 0 ≤ s) (h1 : s ≤ 9223372036854775807) (hb : inR (-s) s n = b) :
    Calls Try.prog 129 #[.int .i64 n, .int .i64 s] w fun e w' => e = .returned (.bool b) ∧ w = w' := by
  have hwr : IntKind.i64.wrap (-s) = -s := IntWalk.i64_in _ (by omega)
  unfold inR at hb
  by_cases h2 : -s ≤ n
  · have hd : decide (-s ≤ n) = true := decide_eq_true h2
    rw [hd, Bool.true_and] at hb
    go_enter Try.func129, Try.ntmps129
    go_wp2
    go_ret
    first | exact ⟨rfl, rfl⟩ | exact ⟨ret_bool hb, rfl⟩
  · have hd : decide (-s ≤ n) = false := decide_eq_false h2
    rw [hd, Bool.false_and] at hb
    subst hb
    go_enter Try.func129, Try.ntmps129
    go_wp2
    go_ret
    exact ⟨rfl, rfl⟩
theorem isNotZero_any (z : Int) (b : Bool) (w : World) (hb : decide (z = 0) = b) :
    Calls Try.prog 124 #[.int .i64 z] w fun e w' => e = .returned (.bool !b) ∧ w = w' := by
  go_enter Try.func124, Try.ntmps124
  go_wp2
  go_ret
  refine ⟨ret_bool ?_, rfl⟩
  subst hb
  by_cases h : z = 0 <;> simp [h]
theorem beyond_any (z : Int) (b : Bool) (w : World) (hb : coefIn z = b) :
    Calls Try.prog 131 #[.int .i64 z] w fun e w' => e = .returned (.bool !b) ∧ w = w' := by
  go_enter Try.func131, Try.ntmps131
  go_wp2_with fail
  refine (within_any z 1000000000 b _ (by omega) (by omega) hb).mono ?_
  rintro e w1 ⟨rfl, rfl⟩
  go_wp2
  go_ret
  exact ⟨rfl, rfl⟩

/-- The first place at which a test holds, or -1. -/
def FirstI (p : Int → Bool) (zs : List Int) (r : Int) : Prop :=
  (r = -1 ∧ ∀ j (h : j < zs.length), p zs[j] = false) ∨ ∃ (i : Nat) (h : i < zs.length), r = i ∧ p zs[i] = true ∧ ∀ j (h : j < i), p zs[j] = false
/-- A function value that is a test of ints and leaves the world alone. -/
def TestOk (F : FuncId) (p : Int → Bool) : Prop :=
  (∀ (args : Array Value) (w : World), (callFunc F args).run Try.prog w = .ok (.enter F args) w) ∧ ∀ (z : Int) (w : World), Calls Try.prog F #[.int .i64 z] w fun e w' => e = .returned (.bool (p z)) ∧ w = w'

set_option maxRecDepth 100000 in
set_option maxHeartbeats 2000000 in
theorem indexI_any (F : FuncId) (p : Int → Bool) (hF : TestOk F p) (a : Option Addr) (cap n : Nat) (zs : List Int) (w : World) (hs : Ints w a n zs) :
    Calls Try.prog 123 #[.slice a n cap, .func (.func F) #[] #[]] w fun e w' => (∃ r, e = .returned (.int .i64 r) ∧ FirstI p zs r) ∧ w = w' := by
  obtain ⟨eg, hf⟩ := hF
  have hm := hs.max
  unfold maxLen at hm
  have HN := Lib.hid hs.len
  have HS := Lib.hid hs
  have HF := Lib.hid hf
  clear hs hf
  go_enter Try.func123, Try.ntmps123
  go_wp2
  go_loopw [8] (fun i wr => ∃ k : Nat, k ≤ n ∧ i = .int .i64 (k : Int) ∧ Hid (∀ j (h : j < zs.length), j < k → p zs[j] = false) ∧ w = wr) (fun i _ => n - (intOf i).toNat)
  case atStart => exact ⟨0, Nat.zero_le _, rfl, Lib.hid (fun j _ h => absurd h (Nat.not_lt_zero _)), rfl⟩
  case round =>
    obtain ⟨k, hk, rfl, HJ, rfl⟩ := hrel
    by_cases hlt : k < n
    · have hkz : k < zs.length := by rw [HN.out]; exact hlt
      obtain ⟨x, rfl, hxb, hxc⟩ := HS.out.at_ (by omega)
      obtain ⟨z, hz⟩ : ∃ z, zs[k] = z := ⟨_, rfl⟩
      have hc := hxc k hkz
      rw [hz] at hc
      have HZ := Lib.hid hz
      clear hz hxc
      go_wp2_with fail
      refine (HF.out z _).mono ?_
      rintro e w2 ⟨rfl, rfl⟩
      cases hp : p z with
      | true =>
        have HP := Lib.hid hp
        clear hp
        go_wp2
        go_ret
        exact ⟨⟨_, rfl, .inr ⟨k, hkz, rfl, by rw [HZ.out]; exact HP.out, fun j hj => HJ.out j (by omega) hj⟩⟩, rfl⟩
      | false =>
        have HP := Lib.hid hp
        clear hp
        go_wp2
        go_roundw
        case rel =>
          refine ⟨k + 1, by omega, by go_num, Lib.hid ?_, by first | trivial | rfl⟩
          intro j hj hjk
          by_cases e : j = k
          · subst e; rw [HZ.out]; exact HP.out
          · exact HJ.out j hj (by omega)
        case measure => simp [intOf]; omega
    · obtain rfl : k = n := by omega
      go_wp2
      go_ret
      exact ⟨⟨_, rfl, .inl ⟨rfl, fun j hj => HJ.out j hj (by rw [← HN.out]; exact hj)⟩⟩, rfl⟩

theorem firstI_any {p : Int → Bool} {zs : List Int} {r : Int} (h : FirstI p zs r) : zs.any p = decide (0 ≤ r) := by
  rcases h with ⟨rfl, h⟩ | ⟨i, hi, rfl, h, _⟩
  · rw [List.any_eq_false.2]
    · rfl
    · intro t ht
      obtain ⟨j, hj, rfl⟩ := List.getElem_of_mem ht
      simpa using h j hj
  · rw [decide_eq_true (by omega : (0 : Int) ≤ i)]
    exact List.any_eq_true.2 ⟨_, List.getElem_mem hi, h⟩
theorem containsI_any (F : FuncId) (p : Int → Bool) (hF : TestOk F p) (a : Option Addr) (cap n : Nat) (zs : List Int) (b : Bool) (w : World) (hs : Ints w a n zs) (hb : zs.any p = b) :
    Calls Try.prog 132 #[.slice a n cap, .func (.func F) #[] #[]] w fun e w' => e = .returned (.bool b) ∧ w = w' := by
  subst hb
  have HS := Lib.hid hs
  clear hs
  go_enter Try.func132, Try.ntmps132
  go_wp2_with fail
  refine (indexI_any F p hF a cap n zs _ HS.out).mono ?_
  rintro e w2 ⟨⟨r, rfl, hr⟩, rfl⟩
  have HR := Lib.hid (firstI_any hr)
  clear hr
  go_wp2
  go_ret
  exact ⟨ret_bool (by rw [HR.out]), rfl⟩

abbrev NZF : FuncId := 124
abbrev BYF : FuncId := 131
theorem nz_ok : TestOk NZF fun z => !decide (z = 0) := ⟨enters_of Try.func124 (by kernel_rfl) rfl, fun z w => isNotZero_any z _ w rfl⟩
theorem beyond_ok : TestOk BYF fun z => !coefIn z := ⟨enters_of Try.func131 (by kernel_rfl) rfl, fun z w => beyond_any z _ w rfl⟩

/-- The first place of what is not 0. -/
theorem firstI_zfrom {zs : List Int} {r : Int} (h : FirstI (fun z => !decide (z = 0)) zs r) : (r = -1 ∧ zfrom zs = zs.length) ∨ (r = (zfrom zs : Nat) ∧ zfrom zs < zs.length) := by
  have hg : ∀ j (hj : j < zs.length), zs.getD j 0 = zs[j] := fun j hj => by rw [List.getD_eq_getElem?_getD, List.getElem?_eq_getElem hj]; rfl
  rcases h with ⟨rfl, h⟩ | ⟨i, hi, rfl, h, h2⟩
  · exact .inl ⟨rfl, zfrom_at (Nat.le_refl _) (fun i hi => by rw [hg i hi]; simpa using h i hi) (fun h => absurd h (Nat.lt_irrefl _))⟩
  · have e : zfrom zs = i := zfrom_at (by omega) (fun j hj => by rw [hg j (by omega)]; simpa using h2 j hj) (fun _ => by rw [hg i hi]; simpa using h)
    rw [e]
    exact .inr ⟨rfl, hi⟩

end Go.Proofs.Ytakfobihakbefaa

/- The program's fits, slices.Clone, apart and told. -/

namespace Go.Proofs.Ytakfobihakbefaa
open Go.RowKit

def fitsB (low : Int) (zs : List Int) : Bool := inR (-300) 300 low && (decide (zs.length ≤ 200) && zs.all coefIn)
theorem all_not (zs : List Int) : (zs.any fun z => !coefIn z) = !(zs.all coefIn) := by
  induction zs with
  | nil => rfl
  | cons z r ih => rw [List.any_cons, List.all_cons, ih, Bool.not_and]

set_option maxRecDepth 100000 in
set_option maxHeartbeats 4000000 in
theorem fits_any (low : Int) (zs : List Int) (a : Option Addr) (cap n : Nat) (b : Bool) (w : World) (hs : Ints w a n zs) (hb : fitsB low zs = b) :
    Calls Try.prog 122 #[plV low (.slice a n cap)] w fun e w' => e = .returned (.bool b) ∧ Below w.heap.size w w' := by
  have hm := hs.max
  unfold maxLen at hm
  have hbW : Below w.heap.size w (w.alloc (.cells #[.int .i64 low, .slice a n cap] 25)) := (Below.refl _ w).alloc (Nat.le_refl _) _
  have HB := Lib.hid hbW
  have HC := Lib.hid (containsI_any BYF _ beyond_ok a cap n zs _ _ (hs.below hbW) rfl)
  have HL := Lib.hid hs.len
  have h2 : ((n : Int) ≤ 200) ↔ (n ≤ 200) := by omega
  unfold fitsB at hb
  rw [HL.out] at hb
  rw [all_not] at HC
  clear hs hbW
  cases hl : inR (-300) 300 low with
  | false =>
    rw [hl, Bool.false_and] at hb
    subst hb
    have HIN := Lib.hid hl
    clear hl
    go_enter Try.func122, Try.ntmps122
    go_wp2_with fail
    refine (within_any low 300 false _ (by omega) (by omega) HIN.out).mono ?_
    rintro e w1 ⟨rfl, rfl⟩
    go_wp2
    go_ret
    exact ⟨rfl, HB.out⟩
  | true =>
    rw [hl, Bool.true_and] at hb
    have HIN := Lib.hid hl
    clear hl
    by_cases h200 : n ≤ 200
    · rw [decide_eq_true h200, Bool.true_and] at hb
      have h200i : (n : Int) ≤ 200 := by omega
      rw [hb] at HC
      go_enter Try.func122, Try.ntmps122
      go_wp2_with fail
      refine (within_any low 300 true _ (by omega) (by omega) HIN.out).mono ?_
      rintro e w1 ⟨rfl, rfl⟩
      go_wp2_with fail
      refine HC.out.mono ?_
      rintro e w1 ⟨rfl, rfl⟩
      go_wp2
      go_ret
      exact ⟨ret_bool (by simp), HB.out⟩
    · rw [decide_eq_false h200, Bool.false_and] at hb
      subst hb
      have h200i : ¬ (n : Int) ≤ 200 := by omega
      have h200d : decide ((n : Int) ≤ 200) = false := decide_eq_false h200i
      go_enter Try.func122, Try.ntmps122
      go_wp2_with fail
      refine (within_any low 300 true _ (by omega) (by omega) HIN.out).mono ?_
      rintro e w1 ⟨rfl, rfl⟩
      go_wp2
      go_ret
      exact ⟨rfl, HB.out⟩

theorem intNil (base : Nat) (w : World) : IntRow base w (.slice none 0 0) [] := ⟨rfl, .inl ⟨rfl, rfl⟩⟩
theorem Ints.newsAny {w : World} {x : Addr} {n : Nat} {zs : List Int} (h : Ints w (some x) n zs) : ∀ j u, (intsV zs)[j]? = some u → w.cell? (x.add j) = some u := fun j u hu => by
  by_cases h0 : 0 < n
  · exact h.news h0 j u hu
  · have hz : zs = [] := List.length_eq_zero_iff.1 (by rw [h.len]; omega)
    subst hz
    simp [intsV] at hu

set_option maxRecDepth 100000 in
set_option maxHeartbeats 4000000 in
theorem cloneI_any (a : Option Addr) (cap n : Nat) (zs : List Int) (w : World) (hs : Ints w a n zs) (hn : n ≤ 1048576) :
    Calls Try.prog 125 #[.slice a n cap] w fun e w' => (∃ v, e = .returned v ∧ IntRow w.heap.size w' v zs) ∧ Below w.heap.size w w' := by
  obtain ⟨i0, hi, hi0, hi1, hi2⟩ := info_parts infoInt
  have qT : ∀ (w : World) (a : Option Addr) (n c n' c' : Nat), (binOp .eql 23 (.slice a n c) (.slice none n' c')).run Try.prog w = .ok (.bool a.isNone) w := fun w a n c n' c' => Lib.run_eql_slice_nil w _ _ a n c n' c' Try.underlying23
  cases a with
  | none =>
    obtain rfl : n = 0 := by
      by_cases h : n = 0
      · exact h
      · obtain ⟨x, e, _⟩ := hs.at_ (by omega)
        cases e
    obtain rfl : zs = [] := List.length_eq_zero_iff.1 hs.len
    clear hs
    go_enter Try.func125, Try.ntmps125
    go_wp2
    go_ret
    exact ⟨⟨_, rfl, intNil _ _⟩, Below.refl _ _⟩
  | some x =>
    have hb1 : Below w.heap.size w (w.alloc (.cells #[] 3)) := (Below.refl _ w).alloc (Nat.le_refl _) _
    have HB := Lib.hid hb1
    have HL : Hid ((intsV zs).length = n * 1) := Lib.hid (by rw [intsV_len, hs.len, Nat.mul_one])
    have HX := Lib.hid (hs.below hb1).newsAny
    have HM := Lib.hid (made_at w w.heap.size rfl w.heap.size (Nat.le_refl _))
    have HN := Lib.hid hs.len
    clear hs hb1
    go_enter Try.func125, Try.ntmps125
    go_wp2_with (at_builtin; go_loud (refine wpList_append_own _ rfl _ _ 23 rfl w.heap.size 3 i0 (.int .i64 0) 1 8 Try.underlying23 hi hi0 hi1 hi2 rfl (by decide) _ 0 _ rfl HM.out x n cap (intsV zs) rfl HL.out HX.out (intsV_one zs) (by unfold maxLen; omega) (by omega) (by simp) ?_; intro v1 w1 hrow hgrow hnil; have HR := Lib.hid hrow; have HG := Lib.hid (HB.out.grown hgrow (by rw [World.size_alloc]; omega) (fun j e => own_ge HM.out j e)); clear hrow hgrow hnil))
    go_ret
    refine ⟨⟨_, rfl, ?_⟩, HG.out⟩
    have hr := HR.out
    rw [Nat.zero_add, List.nil_append] at hr
    exact rowI hr HN.out

end Go.Proofs.Ytakfobihakbefaa

/- The program's apart and told. -/

namespace Go.Proofs.Ytakfobihakbefaa
open Go.RowKit

abbrev ZT : TypeId := 118
abbrev PT : TypeId := 71
/-- What a polynomial is told apart as. -/
def Apart (w : World) (v : Value) (lw : Int) (q : Pl) : Prop :=
  (q.cs.length = 0 ∧ v = .iface ZT (.agg #[])) ∨ (0 < q.cs.length ∧ ∃ a cap, v = .iface PT (plV lw (.slice a q.cs.length cap)) ∧ q.cs.length ≤ cap ∧ Ints w a q.cs.length q.cs)
theorem tidy_zero {low : Int} {zs : List Int} (h : zfrom zs = zs.length) : tidyP low zs = ⟨0, []⟩ := tidy_all low h

set_option maxRecDepth 100000 in
set_option maxHeartbeats 4000000 in
theorem apart_zero (low : Int) (zs : List Int) (a : Option Addr) (cap n : Nat) (w : World) (hs : Ints w a n zs) (hz : zfrom zs = zs.length) :
    Calls Try.prog 71 #[plV low (.slice a n cap)] w fun e w' => e = .returned (.iface ZT (.agg #[])) ∧ Below w.heap.size w w' := by
  have hbW : Below w.heap.size w (w.alloc (.cells #[.int .i64 low, .slice a n cap] 25)) := (Below.refl _ w).alloc (Nat.le_refl _) _
  have HB := Lib.hid hbW
  have HI := Lib.hid (indexI_any NZF _ nz_ok a cap n zs _ (hs.below hbW))
  have HZ := Lib.hid hz
  clear hs hbW hz
  go_enter Try.func71, Try.ntmps71
  go_wp2_with fail
  refine HI.out.mono ?_
  rintro e w1 ⟨⟨r, rfl, hr⟩, rfl⟩
  obtain rfl : r = -1 := by
    rcases firstI_zfrom hr with ⟨h, _⟩ | ⟨_, h⟩
    · exact h
    · rw [HZ.out] at h; omega
  clear hr
  go_wp2
  go_ret
  exact ⟨rfl, HB.out⟩

theorem Ints.part {w : World} {x : Addr} {n f m : Nat} {zs : List Int} (h : Ints w (some x) n zs) (h0 : 0 < n) (hf : f + m ≤ n) : Ints w (some (x.add f)) m ((zs.drop f).take m) := by
  have hl := h.len
  obtain ⟨y, hy, hb, hc⟩ := h.at_ h0
  obtain rfl : x = y := by simpa using hy
  refine ⟨by rw [List.length_take, List.length_drop]; omega, by have := h.max; omega, fun _ => ⟨_, rfl, by rw [addr_add_block]; exact hb, fun j hj => ?_⟩, fun z hz => h.wf z (List.mem_of_mem_drop (List.mem_of_mem_take hz))⟩
  rw [List.length_take, List.length_drop] at hj
  rw [Addr.add_add, hc (f + j) (by omega), List.getElem_take, List.getElem_drop]

set_option maxRecDepth 100000 in
set_option maxHeartbeats 4000000 in
theorem apart_some (low : Int) (zs : List Int) (a : Option Addr) (cap n f : Nat) (w : World) (hs : Ints w a n zs) (hcap : n ≤ cap) (hz : zfrom zs = f) (hf : f < n) :
    Calls Try.prog 71 #[plV low (.slice a n cap)] w fun e w' => (∃ v, e = .returned v ∧ Apart w' v (wrap64 (tidyP low zs).low) (tidyP low zs)) ∧ Below w.heap.size w w' := by
  have hm := hs.max
  unfold maxLen at hm
  obtain ⟨x, rfl, hxb, hxc⟩ := hs.at_ (by omega)
  obtain ⟨W, hW⟩ : ∃ W, w.alloc (.cells #[.int .i64 low, .slice (some x) n cap] 25) = W := ⟨_, rfl⟩
  have hsz : W.heap.size = w.heap.size + 1 := by rw [← hW]; simp
  have hbW : Below w.heap.size w W := by rw [← hW]; exact (Below.refl _ w).alloc (Nat.le_refl _) _
  obtain ⟨c0, c1⟩ := boxCells (w := w) (w1 := W) (x := .int .i64 low) (y := .slice (some x) n cap) rfl (by rw [hW, ← hsz]; exact Below.refl _ _)
  have HX : Hid (∀ k (h : k < n) z, zs.getD k 0 = z → W.cell? (x.add k) = some (.int .i64 z)) := Lib.hid fun k h z e => by
    have hl := hs.len
    rw [← e, List.getD_eq_getElem?_getD, List.getElem?_eq_getElem (by omega)]
    exact (hbW.cell (p := x.add k) (by rw [addr_add_block]; exact hxb)).trans (hxc k (by omega))
  have HB := Lib.hid hbW
  have HI := Lib.hid (indexI_any NZF _ nz_ok (some x) cap n zs _ (hs.below hbW))
  have HS := Lib.hid (hs.below hbW)
  have HZ := Lib.hid hz
  have HL := Lib.hid hs.len
  have HW := Lib.hid hW
  clear hs hbW hz hxc hW hsz
  go_enter Try.func71, Try.ntmps71
  go_wp2_with fail
  rw [HW.out]
  refine HI.out.mono ?_
  rintro e w1 ⟨⟨r, rfl, hr⟩, rfl⟩
  obtain rfl : r = (f : Int) := by
    rcases firstI_zfrom hr with ⟨_, h⟩ | ⟨h, _⟩
    · rw [HZ.out, HL.out] at h; omega
    · rw [HZ.out] at h; exact h
  clear hr
  have hfi : ¬ (f : Int) < 0 := by omega
  have hfd : decide ((f : Int) < 0) = false := decide_eq_false hfi
  obtain ⟨z, hzf⟩ : ∃ z, zs.getD f 0 = z := ⟨_, rfl⟩
  have hzn : ¬ z = 0 := by rw [← hzf, ← HZ.out]; exact zfrom_head zs (by rw [HZ.out, HL.out]; exact hf)
  have HHZ := Lib.hid hzf
  have HZN := Lib.hid hzn
  clear hzf hzn
  go_wp2
  go_loopw [4] (fun i wr => ∃ t : Nat, f < t ∧ t ≤ n ∧ i = .int .i64 (t : Int) ∧ Hid (∀ i, t ≤ i → zs.getD i 0 = 0) ∧ W = wr) (fun i _ => (intOf i).toNat)
  case atStart => exact ⟨n, by omega, Nat.le_refl _, rfl, Lib.hid fun i h => getD_far (by rw [HL.out]; exact h), rfl⟩
  case round =>
    obtain ⟨t, ht1, ht2, rfl, HT, rfl⟩ := hrel
    obtain ⟨m, hm⟩ : ∃ m, t = m + 1 := ⟨t - 1, by omega⟩
    subst hm
    have hwr : IntKind.i64.wrap (((m + 1 : Nat) : Int) - 1) = (m : Int) := by rw [IntWalk.i64_in _ (by omega)]; omega
    obtain ⟨y, hy⟩ : ∃ y, zs.getD m 0 = y := ⟨_, rfl⟩
    have hcy := HX.out m (by omega) y hy
    have hmn : m < n := by omega
    have hmi : (0 : Int) ≤ (m : Int) := by omega
    have hmni : (m : Int) < (n : Int) := by omega
    by_cases hy0 : y = 0
    · subst hy0
      have hmk : f ≠ m := fun e => HZN.out (by rw [← HHZ.out, e, hy])
      have HY := Lib.hid hy
      clear hy
      go_wp2
      go_roundw
      case rel => exact ⟨m, by omega, by omega, by go_num, Lib.hid fun i h => by
        by_cases e : i = m
        · rw [e]; exact HY.out
        · exact HT.out i (by omega), by first | trivial | rfl⟩
      case measure => simp [intOf]
    · have hyb : (y == 0) = false := by simpa using hy0
      have HCUT := Lib.hid (tidy_cut low HZ.out ht1 (by rw [HL.out]; exact ht2) HT.out (by show zs.getD m 0 ≠ 0; rw [hy]; exact hy0))
      have hlen : ((zs.drop f).take (m + 1 - f)).length = m + 1 - f := by rw [List.length_take, List.length_drop, HL.out]; omega
      have HPART := Lib.hid (HS.out.part (f := f) (m := m + 1 - f) (by omega) (by omega))
      have HLEN := Lib.hid hlen
      have hfm : (f : Int) ≤ ((m + 1 : Nat) : Int) := by omega
      have hmc : ((m + 1 : Nat) : Int) ≤ (cap : Int) := by omega
      have hmcn : m + 1 ≤ cap := by omega
      have hf0 : (0 : Int) ≤ (f : Int) := by omega
      clear hy HT hlen
      go_wp2
      go_quiet (fail)
      go_wp2
      go_ret
      refine ⟨⟨_, rfl, ?_⟩, below_drewN HB.out _⟩
      rw [HCUT.out]
      refine .inr ⟨by show 0 < ((zs.drop f).take (m + 1 - f)).length; rw [HLEN.out]; omega, some (x.add f), cap - f, ?_, ?_, ?_⟩
      · rw [HLEN.out]
        rfl
      · show ((zs.drop f).take (m + 1 - f)).length ≤ _
        rw [HLEN.out]; omega
      · show Ints _ _ ((zs.drop f).take (m + 1 - f)).length ((zs.drop f).take (m + 1 - f))
        rw [HLEN.out]
        exact HPART.out.below (below_drewN (Below.refl _ _) _)

theorem apart_any (low : Int) (zs : List Int) (a : Option Addr) (cap n : Nat) (w : World) (hs : Ints w a n zs) (hcap : n ≤ cap) :
    Calls Try.prog 71 #[plV low (.slice a n cap)] w fun e w' => (∃ v, e = .returned v ∧ Apart w' v (wrap64 (tidyP low zs).low) (tidyP low zs)) ∧ Below w.heap.size w w' := by
  have hl := hs.len
  by_cases hz : zfrom zs = zs.length
  · refine (apart_zero low zs a cap n w hs hz).mono ?_
    rintro e w1 ⟨rfl, hb⟩
    exact ⟨⟨_, rfl, .inl ⟨by rw [tidy_zero hz]; rfl, rfl⟩⟩, hb⟩
  · exact apart_some low zs a cap n _ w hs hcap rfl (by have := zfrom_le zs; omega)

theorem apart_in (low : Int) (zs : List Int) (a : Option Addr) (cap n : Nat) (w : World) (hs : Ints w a n zs) (hcap : n ≤ cap) (h1 : -1000000000 ≤ low) (h2 : low ≤ 1000000000) (hn : n ≤ 1048576) :
    Calls Try.prog 71 #[plV low (.slice a n cap)] w fun e w' => (∃ v, e = .returned v ∧ Apart w' v (tidyP low zs).low (tidyP low zs)) ∧ Below w.heap.size w w' := by
  have e : wrap64 (tidyP low zs).low = (tidyP low zs).low := by
    have hz := zfrom_le zs
    rw [hs.len] at hz
    refine IntWalk.wrap64_in _ ?_
    unfold tidyP
    split
    · show -9223372036854775808 ≤ (0 : Int) ∧ (0 : Int) ≤ 9223372036854775807; omega
    · show -9223372036854775808 ≤ low + (zfrom zs : Int) ∧ low + (zfrom zs : Int) ≤ 9223372036854775807; omega
  have h := apart_any low zs a cap n w hs hcap
  rwa [e] at h

end Go.Proofs.Ytakfobihakbefaa

/- The program's told, PolyIn. -/

namespace Go.Proofs.Ytakfobihakbefaa
open Go.RowKit

/-- A polynomial that was laid in a box, and the answer's cells behind it. -/
theorem boxT {w w1 W : World} {t : TypeId} {x y : Value} (hW : (w.alloc (.cells #[x, y] t)).alloc (.cells #[.int .i64 0, .slice none 0 0] 25) = W) (hg : Below W.heap.size W w1) :
    w1.cell? ⟨w.heap.size, 0, none⟩ = some x ∧ w1.cell? ⟨w.heap.size, 1, none⟩ = some y ∧ w1.cell? ⟨w.heap.size + 1, 0, none⟩ = some (.int .i64 0) ∧ w1.cell? ⟨w.heap.size + 1, 1, none⟩ = some (.slice none 0 0) ∧ w1.frozen? ⟨w.heap.size + 1, 0, none⟩ = false ∧ w1.frozen? ⟨w.heap.size + 1, 1, none⟩ = false := by
  have hsz : W.heap.size = w.heap.size + 2 := by rw [← hW]; simp
  have e0 := hg.block w.heap.size (by omega)
  have e1 : W.heap[w.heap.size]? = some (.cells #[x, y] t (0, 0)) := by
    rw [← hW, Below.heap_alloc _ _ _ (by simp)]
    exact World.alloc_heap_new w _
  rw [e1] at e0
  obtain ⟨d0, d1, f0, f1⟩ := resCells (w := w.alloc (.cells #[x, y] t)) (w1 := w1) (r := w.heap.size + 1) (by simp) (by rw [hW, show w.heap.size + 1 + 1 = W.heap.size by omega]; exact hg)
  exact ⟨by simp [World.cell?, e0], by simp [World.cell?, e0], d0, d1, f0, f1⟩
theorem boxTBelow {w W : World} {t : TypeId} {x y : Value} (hW : (w.alloc (.cells #[x, y] t)).alloc (.cells #[.int .i64 0, .slice none 0 0] 25) = W) : Below w.heap.size w W ∧ W.heap.size = w.heap.size + 2 := by
  subst hW
  exact ⟨((Below.refl _ w).alloc (Nat.le_refl _) _).alloc (by simp) _, by simp⟩
theorem oneBox {w w1 W : World} {t : TypeId} {x y : Value} (hW : w.alloc (.cells #[x, y] t) = W) (hg : Below W.heap.size W w1) :
    w1.cell? ⟨w.heap.size, 0, none⟩ = some x ∧ w1.cell? ⟨w.heap.size, 1, none⟩ = some y := by
  have hsz : W.heap.size = w.heap.size + 1 := by rw [← hW]; simp
  have e0 := hg.block w.heap.size (by omega)
  rw [← hW, World.alloc_heap_new] at e0
  exact ⟨by simp [World.cell?, e0], by simp [World.cell?, e0]⟩

set_option maxRecDepth 100000 in
set_option maxHeartbeats 4000000 in
theorem toldZ_any (w : World) :
    Calls Try.prog 149 #[.agg #[]] w fun e w' => (∃ v, e = .returned (.tuple #[plV 0 v, .bool true]) ∧ IntRow w.heap.size w' v []) ∧ Below w.heap.size w w' := by
  go_enter Try.func149, Try.ntmps149
  go_wp2
  refine bodyPost_ret (v := .tuple #[plV 0 (.slice none 0 0), .bool true]) ?_ rfl ⟨⟨_, rfl, intNil _ _⟩, ?_⟩
  · simp [results, Try.results149, go_sem, plV]
  · first
    | exact ((Below.refl _ w).alloc (Nat.le_refl _) _).alloc (by simp) _
    | exact ((((Below.refl _ w).alloc (Nat.le_refl _) _).alloc (by simp) _).setCell (by simp) _).setCell (by simp) _

set_option maxRecDepth 100000 in
set_option maxHeartbeats 4000000 in
theorem toldP_any (low : Int) (zs : List Int) (a : Option Addr) (cap n : Nat) (b : Bool) (w : World) (hs : Ints w a n zs) (hb : fitsB low zs = b) :
    Calls Try.prog 73 #[plV low (.slice a n cap)] w fun e w' => (∃ v, e = .returned (.tuple #[plV (doneP b ⟨low, zs⟩).low v, .bool b]) ∧ IntRow w.heap.size w' v (doneP b ⟨low, zs⟩).cs) ∧ Below w.heap.size w w' := by
  obtain ⟨W, hW⟩ : ∃ W, (w.alloc (.cells #[.int .i64 low, .slice a n cap] PT)).alloc (.cells #[.int .i64 0, .slice none 0 0] 25) = W := ⟨_, rfl⟩
  obtain ⟨hbW, hsz⟩ := boxTBelow hW
  have HC : Hid (∀ w1, Below W.heap.size W w1 → _) := Lib.hid fun w1 (hg : Below W.heap.size W w1) => boxT hW hg
  have HF := Lib.hid (fits_any low zs a cap n b W (hs.below hbW) hb)
  have HS := Lib.hid (hs.below hbW)
  have HB := Lib.hid hb
  have HBW := Lib.hid hbW
  have HW := Lib.hid hW
  clear hW hbW hs hb
  go_enter Try.func73, Try.ntmps73
  go_wp2_with fail
  rw [HW.out]
  refine HF.out.mono ?_
  rintro e w1 ⟨rfl, hb1⟩
  obtain ⟨q0, q1, d0, d1, f0, f1⟩ := HC.out w1 hb1
  have hs1 := hb1.size
  have HB1 := Lib.hid hb1
  clear hb1
  cases b with
  | false =>
    go_wp2
    refine bodyPost_ret (v := .tuple #[plV 0 (.slice none 0 0), .bool false]) ?_ rfl ⟨⟨_, rfl, intNil _ _⟩, resBelow1 (.int .i64 0) (.slice none 0 0) (HBW.out.trans (HB1.out.mono HBW.out.size))⟩
    simp [results, Try.results73, go_sem, d0, d1, plV]
  | true =>
    have hn : n ≤ 1048576 := by
      have h := HB.out
      unfold fitsB at h
      simp only [Bool.and_eq_true, decide_eq_true_eq] at h
      have := HS.out.len
      omega
    have HCL : Hid (∀ w2, Below W.heap.size W w2 → _) := Lib.hid fun w2 (hg : Below W.heap.size W w2) => cloneI_any a cap n zs w2 (HS.out.below hg) hn
    go_wp2
    go_region_held3 (fun w' : World => w'.cell? ⟨w.heap.size, 0, none⟩ = some (.int .i64 low) ∧ w'.cell? ⟨w.heap.size, 1, none⟩ = some (.slice a n cap)) (first | go_keep | exact ⟨k0, k1⟩)
      (first
        | (go_at_call 125
           refine (HCL.out _ HB1.out.drew).mono ?_
           rintro e w2 ⟨⟨v, rfl, hr⟩, hb2⟩
           have HR := Lib.hid hr
           have HB2 := Lib.hid (HB1.out.drew.trans (hb2.mono hs1))
           obtain ⟨k0, k1, d0, d1, f0, f1⟩ := HC.out w2 HB2.out
           obtain ⟨g1, gg, cap1, rfl, _⟩ := hr.shape
           clear hr hb2))
    go_wp2
    have hR : IntRow (w.heap.size + 2) w2 (.slice g1 zs.length cap1) zs := HR.out.mono (by show w.heap.size + 2 ≤ w1.heap.size; omega)
    refine bodyPost_ret (v := .tuple #[plV low (.slice g1 zs.length cap1), .bool true]) ?_ rfl ⟨⟨_, rfl, resRow1 (.int .i64 low) (.slice g1 zs.length cap1) hR (by omega)⟩, resBelow1 (.int .i64 low) (.slice g1 zs.length cap1) (HBW.out.trans (HB2.out.mono HBW.out.size))⟩
    simp [results, Try.results73, go_sem, d0, d1, plV]

end Go.Proofs.Ytakfobihakbefaa

/- The program's PolyIn. -/

namespace Go.Proofs.Ytakfobihakbefaa
open Go.RowKit

theorem tidy_self {p : Pl} (h : Trim p) : tidyP p.low p.cs = p := trim_unique (tidy_trim _ _) h fun k => tidy_pat p.low p.cs k
theorem fits_polyB {p : Pl} (h : Trim p) (h0 : 0 < p.cs.length) : fitsB p.low p.cs = polyB p := by
  rcases h with ⟨h, _⟩ | ⟨_, h1, h2⟩
  · rw [h] at h0; exact absurd h0 (Nat.lt_irrefl _)
  · unfold fitsB polyB
    rw [if_neg (by omega), decide_eq_false h1, decide_eq_false h2]
    cases p.cs.all coefIn <;> cases decide (p.cs.length ≤ 200) <;> cases inR (-300) 300 p.low <;> rfl
theorem polyB_nil : polyB ⟨0, []⟩ = true := rfl
/-- Whether a polynomial is one, by what it is told apart as. -/
theorem polyB_apart (low : Int) (zs : List Int) : polyB ⟨low, zs⟩ = if (tidyP low zs).cs.length = 0 then decide (low = 0) && decide (zs.length = 0) else fitsB low zs && decide ((tidyP low zs).cs.length = zs.length) := by
  by_cases hT : Trim ⟨low, zs⟩
  · have e := tidy_self hT
    have e : tidyP low zs = ⟨low, zs⟩ := e
    rw [e]
    show _ = if zs.length = 0 then _ else _
    by_cases h0 : zs.length = 0
    · rw [if_pos h0]
      obtain rfl : zs = [] := List.length_eq_zero_iff.1 h0
      show (true && (if ([] : List Int).length = 0 then decide (low = 0) else _)) = (decide (low = 0) && true)
      simp
    · rw [if_neg h0, ← fits_polyB hT (by show 0 < zs.length; omega)]
      simp
  · have hP : polyB ⟨low, zs⟩ = false := by
      cases h : polyB ⟨low, zs⟩ with
      | false => rfl
      | true => exact absurd (polyB_trim h).1 hT
    rw [hP]
    split
    · rename_i h
      by_cases h0 : zs.length = 0
      · obtain rfl : zs = [] := List.length_eq_zero_iff.1 h0
        by_cases hl : low = 0
        · exact absurd (.inl ⟨rfl, hl⟩) hT
        · rw [decide_eq_false hl]; rfl
      · rw [decide_eq_false h0, Bool.and_false]
    · rename_i h
      by_cases hl : (tidyP low zs).cs.length = zs.length
      · exfalso
        apply hT
        have hc : (tidyP low zs).cs = ztrim (zs.drop (zfrom zs)) := by
          unfold tidyP at h ⊢
          split
          · rename_i h2; rw [if_pos h2] at h; exact absurd rfl h
          · rfl
        have hz := ztrim_len (zs.drop (zfrom zs))
        rw [← hc, hl, List.length_drop] at hz
        have hzf := zfrom_le zs
        have h0 : zfrom zs = 0 := by
          rw [hl] at h
          omega
        rw [h0, List.drop_zero] at hc
        have he : zs = ztrim zs := eq_getD (by rw [← hc, hl]) fun i _ => (ztrim_get zs i).symm
        have h1 : zs ≠ [] := fun e => h (by rw [hl, e]; rfl)
        refine .inr ⟨h1, ?_, ?_⟩
        · have := zfrom_head zs (by rw [h0]; exact List.length_pos_iff.2 h1)
          rwa [h0] at this
        · rcases ztrim_last zs with h2 | h2
          · rw [← he] at h2; exact absurd h2 h1
          · rw [← he] at h2; exact h2
      · rw [decide_eq_false hl, Bool.and_false]

theorem assert_yes (v : Value) (w : World) : (Instr.typeAssert (.iface PT v) 69 PT true).run Try.prog w = .ok (.tuple #[v, .bool true]) w := by kernel_rfl
theorem assert_no (v : Value) (w : World) : (Instr.typeAssert (.iface ZT v) 69 PT true).run Try.prog w = .ok (.tuple #[plV 0 (.slice none 0 0), .bool false]) w := by kernel_rfl

set_option maxRecDepth 100000 in
set_option maxHeartbeats 4000000 in
theorem iPolyIn_any (low : Int) (zs : List Int) (a : Option Addr) (cap n : Nat) (b : Bool) (w : World) (hs : Ints w a n zs) (hcap : n ≤ cap) (hb : polyB ⟨low, zs⟩ = b) :
    Calls Try.prog 70 #[plV low (.slice a n cap)] w fun e w' => e = .returned (.bool b) ∧ Below w.heap.size w w' := by
  have hm := hs.max
  unfold maxLen at hm
  have hY := assert_yes
  have hN := assert_no
  obtain ⟨W, hW⟩ : ∃ W, w.alloc (.cells #[.int .i64 low, .slice a n cap] 25) = W := ⟨_, rfl⟩
  have hsz : W.heap.size = w.heap.size + 1 := by rw [← hW]; simp
  have hbW : Below w.heap.size w W := by rw [← hW]; exact (Below.refl _ w).alloc (Nat.le_refl _) _
  have HC : Hid (∀ w1, Below W.heap.size W w1 → _) := Lib.hid fun w1 (hg : Below W.heap.size W w1) => oneBox hW hg
  have HA := Lib.hid (apart_any low zs a cap n W (hs.below hbW) hcap)
  have HS := Lib.hid (hs.below hbW)
  have HL := Lib.hid hs.len
  have HBW := Lib.hid hbW
  have HW := Lib.hid hW
  rw [polyB_apart, hs.len] at hb
  clear hW hbW hs
  go_enter Try.func70, Try.ntmps70
  go_wp2_with fail
  rw [HW.out]
  refine HA.out.mono ?_
  rintro e w1 ⟨⟨v, rfl, hA⟩, hb1⟩
  have hs1 := hb1.size
  have HB1 := Lib.hid hb1
  obtain ⟨q0, q1⟩ := HC.out w1 hb1
  clear hb1
  rcases hA with ⟨hq, rfl⟩ | ⟨hq, a1, cap1, rfl, hc1, hi1⟩
  · rw [if_pos hq] at hb
    have hni : ((n : Int) = 0) ↔ n = 0 := by omega
    have HBE := Lib.hid hb
    clear hq hb
    by_cases hl0 : low = 0
    · subst hl0
      go_wp2
      go_ret
      refine ⟨ret_bool ?_, HBW.out.trans (HB1.out.mono HBW.out.size)⟩
      rw [← HBE.out]
      by_cases h0 : n = 0
      · simp [h0]
      · have : ¬ (n : Int) = 0 := by omega
        simp [h0]
    · have hlb : (low == 0) = false := by simpa using hl0
      go_wp2
      go_ret
      refine ⟨ret_bool ?_, HBW.out.trans (HB1.out.mono HBW.out.size)⟩
      rw [← HBE.out, decide_eq_false hl0]
      rfl
  · rw [if_neg (by omega)] at hb
    obtain ⟨m, hm⟩ : ∃ m, (tidyP low zs).cs.length = m := ⟨_, rfl⟩
    rw [hm] at hb hq ⊢
    obtain ⟨V, hV⟩ : ∃ V, w1.alloc (.cells #[.int .i64 (wrap64 (tidyP low zs).low), .slice a1 m cap1] PT) = V := ⟨_, rfl⟩
    have hbV : Below w1.heap.size w1 V := by rw [← hV]; exact (Below.refl _ _).alloc (Nat.le_refl _) _
    have HD : Hid (∀ w2, Below V.heap.size V w2 → _) := Lib.hid fun w2 (hg : Below V.heap.size V w2) => oneBox hV hg
    have HBV := Lib.hid (HB1.out.trans (hbV.mono hs1))
    obtain ⟨c, hc⟩ : ∃ c, fitsB low zs = c := ⟨_, rfl⟩
    rw [hc] at hb
    have HF := Lib.hid (fits_any low zs a cap n c V (HS.out.below HBV.out) hc)
    have HV := Lib.hid hV
    have hp := HC.out V HBV.out
    rw [← hV] at hp
    obtain ⟨p0, p1⟩ := hp
    have HBE := Lib.hid hb
    clear hV hbV hi1 hm hc hb
    go_wp2_with fail
    rw [HV.out]
    refine HF.out.mono ?_
    rintro e w2 ⟨rfl, hb2⟩
    obtain ⟨q0, q1⟩ := HC.out w2 (HBV.out.trans (hb2.mono HBV.out.size))
    obtain ⟨d0, d1⟩ := HD.out w2 hb2
    have HB2 := Lib.hid (HBW.out.trans ((HBV.out.trans (hb2.mono HBV.out.size)).mono HBW.out.size))
    clear hb2
    cases c with
    | false =>
      go_wp2
      go_ret
      exact ⟨ret_bool (by rw [← HBE.out]; rfl), HB2.out⟩
    | true =>
      have hmn : ((m : Int) = (n : Int)) ↔ m = n := by omega
      go_wp2
      go_ret
      refine ⟨ret_bool ?_, HB2.out⟩
      rw [← HBE.out]
      by_cases h : m = n
      · simp [h]
      · have h2 : ¬ (m : Int) = (n : Int) := by omega
        simp [h, h2]

end Go.Proofs.Ytakfobihakbefaa

/- The program's PolyOf. -/

namespace Go.Proofs.Ytakfobihakbefaa
open Go.RowKit

theorem told_zm (w : World) : (Go.method 242 118 (.agg #[]) "loop.example/foxcalculus/impl.told").run Try.prog w = .ok (149, .agg #[]) w := by kernel_rfl
theorem told_zn (w : World) : (Go.nilAhead 242 118 (.agg #[]) "loop.example/foxcalculus/impl.told").run Try.prog w = .ok (some false) w := by kernel_rfl
theorem told_pm (x y : Value) (w : World) : (Go.method 242 71 (.agg #[x, y]) "loop.example/foxcalculus/impl.told").run Try.prog w = .ok (73, .agg #[x, y]) w := by kernel_rfl
theorem told_pn (x y : Value) (w : World) : (Go.nilAhead 242 71 (.agg #[x, y]) "loop.example/foxcalculus/impl.told").run Try.prog w = .ok (some false) w := by kernel_rfl
/-- What the program tells of what was told apart. -/
theorem told_zero {q : Pl} {c : Bool} (hT : Trim q) (h0 : q.cs.length = 0) (hc : polyB q = c) : c = true ∧ q = ⟨0, []⟩ := by
  obtain ⟨l, cs⟩ := q
  obtain rfl : cs = [] := List.length_eq_zero_iff.1 h0
  rcases hT with ⟨_, h⟩ | ⟨h, _⟩
  · obtain rfl : l = 0 := h
    exact ⟨hc.symm, rfl⟩
  · exact absurd rfl h
theorem polyOfB_fits (low : Int) (zs : List Int) : polyOfB low zs = (fitsB low zs && polyB (tidyP low zs)) := by
  unfold polyOfB fitsB
  cases h : zs.all coefIn with
  | true => cases inR (-300) 300 low <;> cases decide (zs.length ≤ 200) <;> rfl
  | false =>
    obtain ⟨z, hz, hc⟩ := List.all_eq_false.1 h
    obtain ⟨i, hi, rfl⟩ := List.mem_iff_getElem.1 hz
    have hb : polyB (tidyP low zs) = false := tidy_bad (i := i) (by rw [List.getD_eq_getElem?_getD, List.getElem?_eq_getElem hi]; simpa using hc)
    rw [hb]
    cases inR (-300) 300 low <;> cases decide (zs.length ≤ 200) <;> rfl
/-- The answer's cells, laid first, and a polynomial in a box behind them. -/
theorem resBox {w w1 W : World} {t : TypeId} {x y : Value} (hW : (w.alloc (.cells #[.int .i64 0, .slice none 0 0] 25)).alloc (.cells #[x, y] t) = W) (hg : Below W.heap.size W w1) :
    w1.cell? ⟨w.heap.size + 1, 0, none⟩ = some x ∧ w1.cell? ⟨w.heap.size + 1, 1, none⟩ = some y ∧ w1.cell? ⟨w.heap.size, 0, none⟩ = some (.int .i64 0) ∧ w1.cell? ⟨w.heap.size, 1, none⟩ = some (.slice none 0 0) ∧ w1.frozen? ⟨w.heap.size, 0, none⟩ = false ∧ w1.frozen? ⟨w.heap.size, 1, none⟩ = false := by
  have hsz : W.heap.size = w.heap.size + 2 := by rw [← hW]; simp
  obtain ⟨c0, c1⟩ := oneBox hW hg
  obtain ⟨d0, d1, f0, f1⟩ := resCells (w := w) (w1 := w1) (r := w.heap.size) rfl (by
    have h : Below (w.heap.size + 1) (w.alloc (.cells #[.int .i64 0, .slice none 0 0] 25)) W := by rw [← hW]; exact (Below.refl _ _).alloc (by simp) _
    exact h.trans (hg.mono (by omega)))
  rw [World.size_alloc] at c0 c1
  exact ⟨c0, c1, d0, d1, f0, f1⟩
theorem resBoxBelow {w W : World} {t : TypeId} {x y : Value} (hW : (w.alloc (.cells #[.int .i64 0, .slice none 0 0] 25)).alloc (.cells #[x, y] t) = W) : Below w.heap.size w W ∧ W.heap.size = w.heap.size + 2 := by
  subst hW
  exact ⟨((Below.refl _ w).alloc (Nat.le_refl _) _).alloc (by simp) _, by simp⟩

end Go.Proofs.Ytakfobihakbefaa

/- How PolyOf and the model's answer, for the law; the program's PolyTurned. -/

namespace Go.Proofs.Ytakfobihakbefaa
open Go.RowKit

theorem toIntS_t (a : Option Addr) (cap n : Nat) (zs : List Int) (w : World) (hm : n ≤ 1048576) (hs : Ints w a n zs) :
    Calls Try.prog 112 #[.slice a n cap] w fun e w' => (∃ g, e = .returned (.slice (some ⟨g, 0, none⟩) n n) ∧ w.heap.size ≤ g ∧ IntRow w.heap.size w' (.slice (some ⟨g, 0, none⟩) n n) zs ∧ Ints w' (some ⟨g, 0, none⟩) n zs) ∧ Below w.heap.size w w' := by
  refine (toIntS_any a cap n zs w hm hs).mono ?_
  rintro e w1 ⟨rfl, hr, hb⟩
  obtain ⟨a1, cap1, hv, hi⟩ := hr.read hs.wf
  have hl := hs.len
  subst hl
  simp at hv
  obtain ⟨rfl, _⟩ := hv
  exact ⟨⟨_, rfl, Nat.le_refl _, hr, hi⟩, hb⟩

theorem polyB_len {p : Pl} (h : polyB p = true) : p.cs.length ≤ 200 := (polyB_trim h).2.1
theorem doneP_len {b : Bool} {p q : Pl} (hb : b = true → polyB p = true) (hq : doneP b p = q) : q.cs.length ≤ 200 := by
  subst hq
  cases b with
  | true => exact polyB_len (hb rfl)
  | false => exact Nat.zero_le _
theorem polyOf_fit {w : World} {low : Int} {zs : List Int} {a : Option Addr} {n : Nat} {b : Bool} {p : Pl} (_ : Ints w a n zs) (_ : polyOfB low zs = b) (hp : polyOfP low zs = p) : p.cs.length ≤ 200 := by
  unfold polyOfP at hp
  refine doneP_len (fun h => ?_) hp
  unfold polyOfB at h
  simp only [Bool.and_eq_true] at h
  exact h.2.2
end Go.Proofs.Ytakfobihakbefaa

/- slices.Reverse at ints; the program's end and PolyTurned. -/

namespace Go.Proofs.Ytakfobihakbefaa
open Go.RowKit Go.Shelf

theorem rowPast {w w' : World} {base : Nat} {e : TypeId} {size : Nat} {v : Value} {n : Nat} {xs : List Value} (h : w.ownsRow base e size v n xs) (hb : Below w.heap.size w w') : w'.ownsRow base e size v n xs :=
  h.kept ⟨hb.os, hb.tape, hb.output, hb.size, fun j hj _ => hb.block j hj⟩ (row := none) (by
    rcases h.2 with ⟨rfl, _⟩ | ⟨g, cap, cur, rfl, _⟩
    · exact .inl rfl
    · exact .inr (by simp [Value.ownBlock]))
theorem grownTrans {a b c : World} {row : Option Nat} (h : a.grownBy b row) (k : b.grownBy c row) : a.grownBy c row :=
  ⟨k.os.trans h.os, k.tape.trans h.tape, k.output.trans h.output, Nat.le_trans h.size k.size, fun i hi hne => (k.block i (Nat.lt_of_lt_of_le hi h.size) hne).trans (h.block i hi hne)⟩
theorem grownRefl (a : World) (row : Option Nat) : a.grownBy a row := ⟨rfl, rfl, rfl, Nat.le_refl _, fun _ _ _ => rfl⟩
theorem grownBelow {a b : World} (row : Option Nat) (h : Below a.heap.size a b) : a.grownBy b row := ⟨h.os, h.tape, h.output, h.size, fun i hi _ => h.block i hi⟩

/-- The list with its first i and last i texts exchanged. -/
def SwappedI (zs ys : List Int) (i : Nat) : Prop := ys.length = zs.length ∧ ∀ p, p < zs.length → ys[p]? = if p < i ∨ zs.length - 1 - p < i then zs[zs.length - 1 - p]? else zs[p]?
theorem SwappedI.all {zs ys : List Int} {i : Nat} (h : SwappedI zs ys i) (hi : zs.length ≤ 2 * i + 1) : ys = zs.reverse := by
  refine List.ext_getElem? fun p => ?_
  by_cases hp : p < zs.length
  · rw [h.2 p hp, List.getElem?_reverse hp]
    by_cases hc : p < i ∨ zs.length - 1 - p < i
    · rw [if_pos hc]
    · rw [if_neg hc, show zs.length - 1 - p = p by omega]
  · rw [List.getElem?_eq_none (by rw [h.1]; omega), List.getElem?_eq_none (by rw [List.length_reverse]; omega)]
theorem SwappedI.step {zs ys : List Int} {i j : Nat} (h : SwappedI zs ys i) (hj : j + i + 1 = zs.length) (hij : i < j) {a b : Int} (ha : ys[i]? = some a) (hb : ys[j]? = some b) : SwappedI zs ((ys.set i b).set j a) (i + 1) := by
  have h1 := h.2 i (by omega)
  have h2 := h.2 j (by omega)
  rw [if_neg (by omega)] at h1 h2
  rw [ha] at h1
  rw [hb] at h2
  refine ⟨by rw [List.length_set, List.length_set]; exact h.1, fun p hp => ?_⟩
  by_cases ej : p = j
  · subst ej
    rw [List.getElem?_set_self (by rw [List.length_set, h.1]; exact hp), if_pos (by omega), show zs.length - 1 - p = i by omega]
    exact h1
  · rw [List.getElem?_set_ne (Ne.symm ej)]
    by_cases ei : p = i
    · subst ei
      rw [List.getElem?_set_self (by rw [h.1]; exact hp), if_pos (by omega), show zs.length - 1 - p = j by omega]
      exact h2
    · rw [List.getElem?_set_ne (Ne.symm ei), h.2 p hp]
      by_cases hc : p < i ∨ zs.length - 1 - p < i
      · rw [if_pos hc, if_pos (by omega)]
      · rw [if_neg hc, if_neg (by omega)]

theorem end_any (low : Int) (a : Option Addr) (cap n : Nat) (w : World) (h1 : -1000000000 ≤ low) (h2 : low ≤ 1000000000) (hn : n ≤ 1048576) :
    Calls Try.prog 105 #[plV low (.slice a n cap)] w fun e w' => e = .returned (.int .i64 (low + (n : Int))) ∧ Below w.heap.size w w' := by
  have hwr : IntKind.i64.wrap (low + (n : Int)) = low + (n : Int) := IntWalk.i64_in _ (by omega)
  go_enter Try.func105, Try.ntmps105
  go_wp2
  go_ret
  exact ⟨rfl, (Below.refl _ w).alloc (Nat.le_refl _) _⟩

def turnedPB (p : Pl) : Bool := polyB p && polyB (turnP p)
def turnedP (p : Pl) : Pl := doneP (turnedPB p) (turnP p)

theorem turned_fit {w : World} {low : Int} {zs : List Int} {a : Option Addr} {n : Nat} {b : Bool} {p : Pl} (_ : Ints w a n zs) (_ : turnedPB ⟨low, zs⟩ = b) (hp : turnedP ⟨low, zs⟩ = p) : p.cs.length ≤ 200 := by
  unfold turnedP at hp
  refine doneP_len (fun h => ?_) hp
  unfold turnedPB at h
  simp only [Bool.and_eq_true] at h
  exact h.2
end Go.Proofs.Ytakfobihakbefaa

/- Division from the first coefficient on (mathematics). -/

namespace Go.Proofs.Ytakfobihakbefaa
open Go.RowKit

def listN (f : Nat → Int) (n : Nat) : List Int := (List.range n).map f
theorem listN_len (f : Nat → Int) (n : Nat) : (listN f n).length = n := by simp [listN]
theorem listN_get {f : Nat → Int} {n i : Nat} (h : i < n) : (listN f n).getD i 0 = f i := by simp [listN, h]
theorem listN_elem {f : Nat → Int} {n i : Nat} (h : i < (listN f n).length) : (listN f n)[i] = f i := by simp [listN]
theorem listN_set {f g : Nat → Int} {x : Int} {n j : Nat} (hg : ∀ k, k ≠ j → g k = f k) (hx : g j = x) : (intsV (listN f n)).set j (.int .i64 x) = intsV (listN g n) := by
  unfold intsV listN
  refine List.ext_getElem (by simp) fun i h1 h2 => ?_
  by_cases e : j = i
  · subst e
    simp [hx]
  · simp [List.getElem_set_ne e, hg i (by omega)]
theorem listN_congr {f g : Nat → Int} {n : Nat} (h : ∀ i, i < n → f i = g i) : listN f n = listN g n :=
  List.map_congr_left fun i hi => h i (List.mem_range.1 hi)
theorem listN_self (l : List Int) : listN (fun i => l.getD i 0) l.length = l :=
  eq_getD (listN_len _ _) fun i hi => listN_get (by rwa [listN_len] at hi)
theorem listN_cell {f : Nat → Int} {n j : Nat} (h : j < n) : (intsV (listN f n))[j]? = some (.int .i64 (f j)) := by
  simp [intsV, listN, h]

/-- What is left when a polynomial has been taken out so many times. -/
def subQ (q : Int) (bs left : List Int) : List Int := listN (fun i => left.getD i 0 - q * bs.getD i 0) left.length
theorem subQ_len (q : Int) (bs left : List Int) : (subQ q bs left).length = left.length := listN_len _ _
theorem subQ_get (q : Int) (bs left : List Int) (i : Nat) (hb : bs.length ≤ left.length) : (subQ q bs left).getD i 0 = left.getD i 0 - q * bs.getD i 0 := by
  by_cases h : i < left.length
  · exact listN_get h
  · rw [getD_far (by rw [subQ_len]; omega), getD_far (l := left) (by omega), getD_far (l := bs) (by omega), Int.mul_zero]; rfl
def leftIn (z : Int) : Bool := inR (-4000000000000000000) 4000000000000000000 z
/-- A step succeeds: how many times, and that it may be so. -/
def stepB (bs left : List Int) : Bool :=
  decide ((left.getD 0 0).tmod (bs.getD 0 0) = 0) && (coefIn ((left.getD 0 0).tdiv (bs.getD 0 0)) && (List.range bs.length).all fun i => leftIn (left.getD i 0 - (left.getD 0 0).tdiv (bs.getD 0 0) * bs.getD i 0))
def stepQ (bs left : List Int) : Int := (left.getD 0 0).tdiv (bs.getD 0 0)
/-- The quotient's coefficients from the first one on, and what is left. -/
def divGo (bs : List Int) : Nat → List Int → Option (List Int × List Int)
  | 0, left => some ([], left)
  | n + 1, left => if stepB bs left then (divGo bs n (subQ (stepQ bs left) bs left).tail).map fun p => (stepQ bs left :: p.1, p.2) else none
def zeroL (l : List Int) : Bool := l.all fun z => decide (z = 0)
def overQ (a b : Pl) : Option Pl :=
  if a.cs.length = 0 then some a else
  match divGo b.cs (a.cs.length + 1 - b.cs.length) a.cs with
  | some p => if zeroL p.2 then some (tidyP (a.low - b.low) p.1) else none
  | none => none
/-- Whether the second one divides the first one, and what comes out. -/
def overB (a b : Pl) : Bool := match overQ a b with
  | some p => polyB p
  | none => false
def overP (a b : Pl) : Pl := match overQ a b with
  | some p => doneP (polyB p) p
  | none => ⟨0, []⟩
theorem tail_get (l : List Int) (i : Nat) : l.tail.getD i 0 = l.getD (i + 1) 0 := by
  cases l with
  | nil => rfl
  | cons x r => simp

end Go.Proofs.Ytakfobihakbefaa

/- The program's opposite and plain. -/

namespace Go.Proofs.Ytakfobihakbefaa
open Go.RowKit

theorem getD_map {f : Int → Int} (hf : f 0 = 0) (l : List Int) (i : Nat) : (l.map f).getD i 0 = f (l.getD i 0) := by
  rw [List.getD_eq_getElem?_getD, List.getD_eq_getElem?_getD, List.getElem?_map]
  cases l[i]? with
  | none => exact hf.symm
  | some z => rfl
theorem polyB_yes {p : Pl} (h0 : 0 < p.cs.length) (hc : ∀ z ∈ p.cs, coefIn z = true) (hl : p.cs.length ≤ 200) (h1 : -300 ≤ p.low) (h2 : p.low ≤ 300) (hf : p.cs.getD 0 0 ≠ 0) (he : p.cs.getD (p.cs.length - 1) 0 ≠ 0) : polyB p = true := by
  unfold polyB inR
  rw [List.all_eq_true.2 hc, if_neg (by omega), decide_eq_true hl, decide_eq_true h1, decide_eq_true h2, decide_eq_false hf, decide_eq_false he]
  rfl
theorem polyB_coef {p : Pl} (h : polyB p = true) : ∀ z ∈ p.cs, coefIn z = true := by
  unfold polyB at h
  rw [Bool.and_eq_true] at h
  exact List.all_eq_true.1 h.1
theorem plain_polyB {p : Pl} (h : polyB p = true) : polyB (plainP p) = true := by
  obtain ⟨hT, hl, h1, h2, hc⟩ := polyB_trim h
  unfold plainP
  by_cases h0 : p.cs.length = 0
  · rw [if_pos h0]; exact h
  · rw [if_neg h0]
    rcases hT with ⟨h3, _⟩ | ⟨_, hf, he⟩
    · rw [h3] at h0; exact absurd rfl h0
    · refine polyB_yes (by show 0 < (List.map _ p.cs).length; rw [List.length_map]; omega) (fun z hz => ?_) (by show (List.map _ p.cs).length ≤ 200; rw [List.length_map]; exact hl) (by show (-300 : Int) ≤ 0; omega) (by show (0 : Int) ≤ 300; omega) ?_ ?_
      · obtain ⟨y, hy, rfl⟩ := List.mem_map.1 hz
        have := coefIn_yes (polyB_coef h y hy)
        unfold coefIn inR
        split <;> simp <;> omega
      · show (List.map _ p.cs).getD 0 0 ≠ 0
        rw [getD_map (by simp)]
        split <;> omega
      · show (List.map _ p.cs).getD ((List.map _ p.cs).length - 1) 0 ≠ 0
        rw [getD_map (by simp), List.length_map]
        split <;> omega
theorem listN_map (f : Int → Int) (zs : List Int) : listN (fun i => f (zs.getD i 0)) zs.length = zs.map f := by
  refine eq_getD (by rw [listN_len, List.length_map]) fun i hi => ?_
  rw [listN_len] at hi
  rw [listN_get hi, List.getD_eq_getElem?_getD, List.getD_eq_getElem?_getD, List.getElem?_map, List.getElem?_eq_getElem hi]
  rfl

/-- The coefficients turned to their opposites. -/
def oppL (zs : List Int) : List Int := zs.map fun z => -1 * z
theorem oppL_len (zs : List Int) : (oppL zs).length = zs.length := by simp [oppL]

set_option maxRecDepth 100000 in
set_option maxHeartbeats 4000000 in
theorem opposite_any (low : Int) (zs : List Int) (a : Option Addr) (cap n : Nat) (w : World) (hs : Ints w a n zs) (hn : n ≤ 1048576) (hcs : ∀ i, -1000000000 ≤ zs.getD i 0 ∧ zs.getD i 0 ≤ 1000000000) :
    Calls Try.prog 102 #[plV low (.slice a n cap)] w fun e w' => (∃ v, e = .returned (plV low v) ∧ IntRow w.heap.size w' v (oppL zs)) ∧ Below w.heap.size w w' := by
  obtain ⟨W, hW⟩ : ∃ W, (w.alloc (.cells #[.int .i64 low, .slice a n cap] 25)).alloc (.cells #[.int .i64 0, .slice none 0 0] 25) = W := ⟨_, rfl⟩
  obtain ⟨hbW, hsz⟩ := boxResBelow hW
  have HC : Hid (∀ w1, Below W.heap.size W w1 → _) := Lib.hid fun w1 (hg : Below W.heap.size W w1) => boxResCells hW hg
  have HCL := Lib.hid (cloneI_any a cap n zs W (hs.below hbW) hn)
  have HL := Lib.hid hs.len
  have HCS := Lib.hid hcs
  have HBW := Lib.hid hbW
  have HW := Lib.hid hW
  clear hW hbW hs hcs
  go_enter Try.func102, Try.ntmps102
  go_wp2_with fail
  rw [HW.out]
  refine HCL.out.mono ?_
  rintro e w1 ⟨⟨v, rfl, hr⟩, hb1⟩
  have hs1 := hb1.size
  have HB1 := Lib.hid hb1
  obtain ⟨a1, g1, cap1, rfl, _, _, _⟩ := hr.shape
  unfold IntRow at hr
  rw [HL.out] at hr
  rw [HL.out]
  have HR0 : Hid (w1.ownsRow W.heap.size 3 1 (.slice a1 n cap1) n (intsV (listN (fun i => if i < 0 then -zs.getD i 0 else zs.getD i 0) n))) := Lib.hid (by
    have e : listN (fun i => if i < 0 then -zs.getD i 0 else zs.getD i 0) n = zs := by
      rw [← HL.out]
      exact (listN_congr fun i _ => if_neg (Nat.not_lt_zero _)).trans (listN_self zs)
    rw [e]
    exact hr)
  clear hb1 hr
  go_wp2
  go_loopw [10] (fun i wr => ∃ k : Nat, k ≤ n ∧ i = .int .i64 (k : Int) ∧ Hid (wr.ownsRow W.heap.size 3 1 (.slice a1 n cap1) n (intsV (listN (fun i => if i < k then -zs.getD i 0 else zs.getD i 0) n))) ∧ Hid (Below W.heap.size W wr)) (fun i _ => n - (intOf i).toNat)
  case atStart => exact ⟨0, Nat.zero_le _, rfl, HR0, HB1⟩
  case round =>
    obtain ⟨k, hk, rfl, HR, HB⟩ := hrel
    by_cases hlt : k < n
    · obtain ⟨g, rfl, hg⟩ : ∃ g, a1 = some ⟨g, 0, none⟩ ∧ W.heap.size ≤ g := by
        rcases HR.out.2 with ⟨_, e1⟩ | ⟨g, cap1, cur, e0, hg, _⟩
        · omega
        · simp only [Value.slice.injEq] at e0; exact ⟨g, e0.1, hg⟩
      obtain ⟨z, hz⟩ : ∃ z, zs.getD k 0 = z := ⟨_, rfl⟩
      have hb := HCS.out k
      rw [hz] at hb
      obtain ⟨hb1, hb2⟩ := hb
      have hck : wr.cell? ⟨g, k, none⟩ = some (.int .i64 z) := by
        rw [HR.out.cellAt _ (by omega), listN_cell hlt, if_neg (Nat.lt_irrefl _), hz]
      have hfk := HR.out.frozenAt k
      have hwr : IntKind.i64.wrap (-z) = -z := IntWalk.i64_in _ (by omega)
      have HST : Hid ((intsV (listN (fun i => if i < k then -zs.getD i 0 else zs.getD i 0) n)).set k (.int .i64 (-z)) = intsV (listN (fun i => if i < k + 1 then -zs.getD i 0 else zs.getD i 0) n)) := Lib.hid (listN_set (fun i hi => by
        by_cases h : i < k
        · rw [if_pos h, if_pos (by omega)]
        · rw [if_neg h, if_neg (by omega)]) (by rw [if_pos (Nat.lt_succ_self k), hz]))
      clear hz
      go_wp2
      go_roundw
      case rel =>
        have h1 := HR.out.stored k (.int .i64 (-z))
        refine ⟨k + 1, by omega, by go_num, Lib.hid ?_, Lib.hid (HB.out.setCell (p := ⟨g, k, none⟩) hg _)⟩
        rw [← HST.out]
        exact h1.1
      case measure => simp [intOf]; omega
    · obtain rfl : k = n := by omega
      have hr := HR.out
      have HP : Hid (listN (fun i => if i < k then -zs.getD i 0 else zs.getD i 0) k = oppL zs) := Lib.hid (by
        unfold oppL
        rw [← listN_map, HL.out]
        exact listN_congr fun i hi => by rw [if_pos hi]; omega)
      have hR : IntRow W.heap.size wr (.slice a1 k cap1) (oppL zs) := by
        rw [HP.out] at hr
        exact rowI hr (by rw [oppL_len]; exact HL.out)
      have HRR := Lib.hid hR
      obtain ⟨q0, q1, d0, d1, f0, f1⟩ := HC.out _ HB.out
      clear hr hR
      go_wp2
      refine bodyPost_ret (v := plV low (.slice a1 k cap1)) ?_ rfl ⟨⟨_, rfl, ?_⟩, ?_⟩
      · simp [results, Try.results102, go_sem, d0, d1, plV]
      · exact resRow1 (.int .i64 low) (.slice a1 k cap1) HRR.out (by omega)
      · exact resBelow1 (.int .i64 low) (.slice a1 k cap1) (HBW.out.trans (HB.out.mono HBW.out.size))

set_option maxRecDepth 100000 in
set_option maxHeartbeats 4000000 in
theorem plain_any (low : Int) (zs : List Int) (a : Option Addr) (cap n : Nat) (w : World) (hs : Ints w a n zs) (hc : n ≤ cap) (h0 : 0 < n) (hn : n ≤ 1048576) (hcs : ∀ i, -1000000000 ≤ zs.getD i 0 ∧ zs.getD i 0 ≤ 1000000000) :
    Calls Try.prog 72 #[plV low (.slice a n cap)] w fun e w' => (∃ v, e = .returned (plV 0 v) ∧ Reads w' v (plainP ⟨low, zs⟩).cs) ∧ Below w.heap.size w w' := by
  obtain ⟨W, hW⟩ : ∃ W, ((w.alloc (.cells #[.int .i64 low, .slice a n cap] PT)).alloc (.cells #[.int .i64 0, .slice none 0 0] PT)).alloc (.cells #[.int .i64 0, .slice a n cap] 25) = W := ⟨_, rfl⟩
  have hsz : W.heap.size = w.heap.size + 3 := by rw [← hW]; simp
  have hbW : Below w.heap.size w W := by rw [← hW]; exact (((Below.refl _ w).alloc (Nat.le_refl _) _).alloc (by simp) _).alloc (by simp; omega) _
  have HC : Hid (∀ w1, Below W.heap.size W w1 → w1.cell? ⟨w.heap.size, 0, none⟩ = some (.int .i64 low) ∧ w1.cell? ⟨w.heap.size, 1, none⟩ = some (.slice a n cap) ∧ w1.cell? ⟨w.heap.size + 1, 0, none⟩ = some (.int .i64 0) ∧ w1.cell? ⟨w.heap.size + 1, 1, none⟩ = some (.slice none 0 0) ∧ w1.cell? ⟨w.heap.size + 1 + 1, 0, none⟩ = some (.int .i64 0) ∧ w1.cell? ⟨w.heap.size + 1 + 1, 1, none⟩ = some (.slice a n cap) ∧ w1.frozen? ⟨w.heap.size + 1, 0, none⟩ = false ∧ w1.frozen? ⟨w.heap.size + 1, 1, none⟩ = false ∧ w1.frozen? ⟨w.heap.size + 1 + 1, 0, none⟩ = false ∧ w1.frozen? ⟨w.heap.size + 1 + 1, 1, none⟩ = false) := Lib.hid fun w1 hg => by
    have e0 := hg.block w.heap.size (by omega)
    have e1 := hg.block (w.heap.size + 1) (by omega)
    have e2 := hg.block (w.heap.size + 1 + 1) (by omega)
    have k0 : W.heap[w.heap.size]? = some (.cells #[.int .i64 low, .slice a n cap] PT (0, 0)) := by
      rw [← hW, Below.heap_alloc _ _ _ (by simp; omega), Below.heap_alloc _ _ _ (by simp)]
      exact World.alloc_heap_new w _
    have k1 : W.heap[w.heap.size + 1]? = some (.cells #[.int .i64 0, .slice none 0 0] PT (0, 0)) := by
      rw [← hW, Below.heap_alloc _ _ _ (by simp)]
      have h := World.alloc_heap_new (w.alloc (.cells #[.int .i64 low, .slice a n cap] PT)) (.cells #[.int .i64 0, .slice none 0 0] PT)
      rwa [World.size_alloc] at h
    have k2 : W.heap[w.heap.size + 1 + 1]? = some (.cells #[.int .i64 0, .slice a n cap] 25 (0, 0)) := by
      rw [← hW]
      have h := World.alloc_heap_new ((w.alloc (.cells #[.int .i64 low, .slice a n cap] PT)).alloc (.cells #[.int .i64 0, .slice none 0 0] PT)) (.cells #[.int .i64 0, .slice a n cap] 25)
      rwa [World.size_alloc, World.size_alloc] at h
    rw [k0] at e0
    rw [k1] at e1
    rw [k2] at e2
    refine ⟨?_, ?_, ?_, ?_, ?_, ?_, ?_, ?_, ?_, ?_⟩ <;> simp [World.cell?, World.frozen?, e0, e1, e2]
  have HS := Lib.hid hs
  have HSW := Lib.hid (hs.below hbW)
  have HL := Lib.hid hs.len
  have HCS := Lib.hid hcs
  have HBW := Lib.hid hbW
  have HW := Lib.hid hW
  obtain ⟨x, rfl, hxb, hx⟩ := hs.at_ h0
  have hz0 := hx 0 (by rw [hs.len]; exact h0)
  have hz1 : W.cell? (x.add 0) = some (.int .i64 (zs[0]'(by rw [hs.len]; exact h0))) := (hbW.cell (p := x.add 0) (by rw [addr_add_block]; exact hxb)).trans hz0
  rw [show x.add 0 = x by simp [Addr.add]] at hz1
  obtain ⟨z0, hz⟩ : ∃ z, zs.getD 0 0 = z := ⟨_, rfl⟩
  have hzz : zs[0]'(by rw [hs.len]; exact h0) = z0 := by rw [← hz, List.getD_eq_getElem?_getD, List.getElem?_eq_getElem (by rw [hs.len]; exact h0)]; rfl
  rw [hzz] at hz1
  have HZ := Lib.hid hz
  have h0i : (0 : Int) < (n : Int) := by omega
  have hsW := hbW.size
  obtain ⟨q0, q1, r0, r1, d0, d1, f0, f1, g0, g1⟩ := HC.out W (Below.refl _ _)
  clear hW hbW hs hcs hx hxb hz0 hz hzz
  go_enter Try.func72, Try.ntmps72
  by_cases hneg : z0 < 0
  · have hnd : decide (z0 < 0) = true := decide_eq_true hneg
    go_wp2_with (first | rw [HW.out] | fail)
    refine (opposite_any 0 zs (some x) cap n W HSW.out hn HCS.out).mono ?_
    rintro e w1 ⟨⟨v, rfl, hr⟩, hb1⟩
    obtain ⟨q0, q1, r0, r1, d0, d1, f0, f1, g0, g1⟩ := HC.out w1 hb1
    have HP : Hid ((plainP ⟨low, zs⟩).cs = oppL zs) := Lib.hid (by
      unfold plainP oppL
      rw [if_neg (by show ¬ zs.length = 0; rw [HL.out]; omega)]
      show zs.map (fun z => (if zs.getD 0 0 < 0 then -1 else 1) * z) = _
      rw [if_pos (by rw [HZ.out]; exact hneg)])
    have hbd : ∀ z ∈ oppL zs, -9223372036854775808 ≤ z ∧ z ≤ 9223372036854775807 := fun z hz => by
      obtain ⟨y, hy, rfl⟩ := List.mem_map.1 hz
      obtain ⟨i, hi, rfl⟩ := List.getElem_of_mem hy
      have := HCS.out i
      rw [List.getD_eq_getElem?_getD, List.getElem?_eq_getElem hi, Option.getD_some] at this
      omega
    obtain ⟨a2, cap2, rfl, _, _⟩ := hr.readc hbd
    have HR := Lib.hid hr
    have HB1 := Lib.hid hb1
    have HBD := Lib.hid hbd
    obtain ⟨r, hr⟩ : ∃ r, (oppL zs).length = r := ⟨_, rfl⟩
    have HRL := Lib.hid hr
    rw [hr] at HR ⊢
    clear hb1 hbd hr
    go_wp2
    have hrow := ownsRow_setCell_below (ownsRow_setCell_below (ownsRow_setCell_below (ownsRow_setCell_below HR.out (a := ⟨w.heap.size + 1 + 1, 0, none⟩) (by show w.heap.size + 1 + 1 < W.heap.size; omega) (.int .i64 0)) (a := ⟨w.heap.size + 1 + 1, 1, none⟩) (by show w.heap.size + 1 + 1 < W.heap.size; omega) (.slice a2 r cap2)) (a := ⟨w.heap.size + 1, 0, none⟩) (by show w.heap.size + 1 < W.heap.size; omega) (.int .i64 0)) (a := ⟨w.heap.size + 1, 1, none⟩) (by show w.heap.size + 1 < W.heap.size; omega) (.slice a2 r cap2)
    have hbel := ((((HBW.out.trans (HB1.out.mono HBW.out.size)).setCell (p := ⟨w.heap.size + 1 + 1, 0, none⟩) (by show w.heap.size ≤ w.heap.size + 1 + 1; omega) (.int .i64 0)).setCell (p := ⟨w.heap.size + 1 + 1, 1, none⟩) (by show w.heap.size ≤ w.heap.size + 1 + 1; omega) (.slice a2 r cap2)).setCell (p := ⟨w.heap.size + 1, 0, none⟩) (by show w.heap.size ≤ w.heap.size + 1; omega) (.int .i64 0)).setCell (p := ⟨w.heap.size + 1, 1, none⟩) (by show w.heap.size ≤ w.heap.size + 1; omega) (.slice a2 r cap2)
    refine bodyPost_ret (v := plV 0 (.slice a2 r cap2)) ?_ rfl ⟨⟨_, rfl, ?_⟩, hbel⟩
    · simp [results, Try.results72, go_sem, r0, r1, plV]
    · rw [HP.out]
      exact IntRow.reads hrow HBD.out
  · have hnd : decide (z0 < 0) = false := decide_eq_false hneg
    have HP : Hid ((plainP ⟨low, zs⟩).cs = zs) := Lib.hid (by
      unfold plainP
      rw [if_neg (by show ¬ zs.length = 0; rw [HL.out]; omega)]
      show zs.map (fun z => (if zs.getD 0 0 < 0 then -1 else 1) * z) = _
      rw [if_neg (by rw [HZ.out]; exact hneg), ← listN_map]
      exact (listN_congr fun i _ => Int.one_mul _).trans (listN_self zs))
    go_wp2_with (first | rw [HW.out] | fail)
    have hbel := (HBW.out.setCell (p := ⟨w.heap.size + 1, 0, none⟩) (by show w.heap.size ≤ w.heap.size + 1; omega) (.int .i64 0)).setCell (p := ⟨w.heap.size + 1, 1, none⟩) (by show w.heap.size ≤ w.heap.size + 1; omega) (.slice (some x) n cap)
    refine bodyPost_ret (v := plV 0 (.slice (some x) n cap)) ?_ rfl ⟨⟨_, rfl, ?_⟩, hbel⟩
    · simp [results, Try.results72, go_sem, r0, r1, plV]
    · rw [HP.out]
      refine ⟨some x, cap, by rw [HL.out], by rw [HL.out]; exact hc, ?_⟩
      rw [HL.out]
      exact HS.out.below hbel

end Go.Proofs.Ytakfobihakbefaa

/- The program's PolyPlain and PolyOne. -/

namespace Go.Proofs.Ytakfobihakbefaa
open Go.RowKit

theorem plain_low {p : Pl} (h : 0 < p.cs.length) : (plainP p).low = 0 := by unfold plainP; rw [if_neg (by omega)]
theorem plain_len (p : Pl) : (plainP p).cs.length = p.cs.length := by
  unfold plainP
  split
  · rfl
  · exact List.length_map _

set_option maxRecDepth 100000 in
set_option maxHeartbeats 4000000 in
theorem iPolyPlain_any (low : Int) (zs : List Int) (a : Option Addr) (cap n : Nat) (b : Bool) (w : World) (hs : Ints w a n zs) (hcap : n ≤ cap) (hb : polyB ⟨low, zs⟩ = b) :
    Calls Try.prog 25 #[plV low (.slice a n cap)] w fun e w' => (∃ v, e = .returned (.tuple #[plV (doneP b (plainP ⟨low, zs⟩)).low v, .bool b]) ∧ IntRow w.heap.size w' v (doneP b (plainP ⟨low, zs⟩)).cs) ∧ Below w.heap.size w w' := by
  have hY := assert_yes
  have hN := assert_no
  obtain ⟨W, hW⟩ : ∃ W, (w.alloc (.cells #[.int .i64 low, .slice a n cap] 25)).alloc (.cells #[.int .i64 0, .slice none 0 0] 25) = W := ⟨_, rfl⟩
  obtain ⟨hbW, hsz⟩ := boxTBelow hW
  have HC : Hid (∀ w1, Below W.heap.size W w1 → _) := Lib.hid fun w1 (hg : Below W.heap.size W w1) => boxT hW hg
  have HP := Lib.hid (iPolyIn_any low zs a cap n b W (hs.below hbW) hcap hb)
  have HS := Lib.hid (hs.below hbW)
  have HL := Lib.hid hs.len
  have HB := Lib.hid hb
  have HBW := Lib.hid hbW
  have HW := Lib.hid hW
  clear hW hbW hs hb
  go_enter Try.func25, Try.ntmps25
  go_wp2_with fail
  rw [HW.out]
  refine HP.out.mono ?_
  rintro e w1 ⟨rfl, hb1⟩
  obtain ⟨q0, q1, d0, d1, f0, f1⟩ := HC.out w1 hb1
  have hs1 := hb1.size
  have HB1 := Lib.hid hb1
  clear hb1
  cases b with
  | false =>
    go_wp2
    refine bodyPost_ret (v := .tuple #[plV 0 (.slice none 0 0), .bool false]) ?_ rfl ⟨⟨_, rfl, intNil _ _⟩, resBelow1 (.int .i64 0) (.slice none 0 0) (HBW.out.trans (HB1.out.mono HBW.out.size))⟩
    simp [results, Try.results25, go_sem, d0, d1, plV]
  | true =>
    obtain ⟨hT, h200, hlo, hhi, hcs⟩ := polyB_trim HB.out
    have hn2 : n ≤ 200 := by rw [← HL.out]; exact h200
    have hlo1 : -300 ≤ low := hlo
    have hhi1 : low ≤ 300 := hhi
    have HSF : Hid (tidyP low zs = ⟨low, zs⟩) := Lib.hid (tidy_self hT)
    have HCS : Hid (∀ i, -1000000000 ≤ zs.getD i 0 ∧ zs.getD i 0 ≤ 1000000000) := Lib.hid hcs
    have HA := Lib.hid (apart_in low zs a cap n w1 (HS.out.below HB1.out) hcap (by omega) (by omega) (by omega))
    clear hcs h200 hlo hhi hT
    go_wp2_with fail
    refine HA.out.mono ?_
    rintro e w2 ⟨⟨v, rfl, hA⟩, hb2⟩
    rw [HSF.out] at hA
    have hs2 := hb2.size
    have HB2 := Lib.hid (HB1.out.trans (hb2.mono hs1))
    obtain ⟨_, _, d0, d1, f0, f1⟩ := HC.out w2 HB2.out
    clear hb2
    rcases hA with ⟨hq, rfl⟩ | ⟨hq, a1, cap1, rfl, hc1, hi1⟩
    · have hz : zs = [] := List.length_eq_zero_iff.1 hq
      have hl : low = 0 := by
        have hT := (polyB_trim HB.out).1
        rcases hT with ⟨_, h⟩ | ⟨h, _⟩
        · exact h
        · exact absurd hz h
      subst hl
      subst hz
      clear hq
      go_wp2
      refine bodyPost_ret (v := .tuple #[plV 0 (.slice none 0 0), .bool true]) ?_ rfl ⟨⟨_, rfl, intNil _ _⟩, resBelow1 (.int .i64 0) (.slice none 0 0) (HBW.out.trans (HB2.out.mono HBW.out.size))⟩
      simp [results, Try.results25, go_sem, d0, d1, plV]
    · have hq0 : 0 < zs.length := hq
      have hlz : zs.length = n := HL.out
      obtain ⟨V, hV⟩ : ∃ V, w2.alloc (.cells #[.int .i64 low, .slice a1 n cap1] PT) = V := ⟨_, rfl⟩
      have hbV : Below w2.heap.size w2 V := by rw [← hV]; exact (Below.refl _ _).alloc (Nat.le_refl _) _
      have hsV := hbV.size
      have HBV := Lib.hid (HB2.out.trans (hbV.mono (by omega)))
      have hi2 : Ints w2 a1 n zs := by have h : Ints w2 a1 zs.length zs := hi1; rwa [hlz] at h
      have HPL := Lib.hid (plain_any low zs a1 cap1 n V (hi2.below hbV) (Nat.le_trans (Nat.le_of_eq hlz.symm) (by assumption)) (by omega) (by omega) HCS.out)
      rw [show (⟨low, zs⟩ : Pl).cs.length = n from hlz]
      have HV := Lib.hid hV
      clear hV hbV hi1 hi2
      go_wp2_with fail
      rw [HV.out]
      refine HPL.out.mono ?_
      rintro e w3 ⟨⟨v, rfl, hr⟩, hb3⟩
      have hs3 := hb3.size
      have HB3 := Lib.hid (HBV.out.trans (hb3.mono (by omega)))
      have hPB : polyB (plainP ⟨low, zs⟩) = true := plain_polyB HB.out
      have hPL : (plainP ⟨low, zs⟩).low = 0 := plain_low hq0
      obtain ⟨a3, cap3, rfl, hc3, hi3⟩ := hr
      have hF : fitsB 0 (plainP ⟨low, zs⟩).cs = true := by
        have h := fits_polyB (polyB_trim hPB).1 (by rw [plain_len]; exact hq0)
        rwa [hPL, hPB] at h
      have HTO := Lib.hid (toldP_any 0 (plainP ⟨low, zs⟩).cs a3 cap3 _ true w3 hi3 hF)
      have HPLL := Lib.hid hPL
      clear hb3 hi3 hPB hPL hF
      go_wp2_with fail
      refine HTO.out.mono ?_
      rintro e w4 ⟨⟨v, rfl, hr⟩, hb4⟩
      have hr : IntRow w3.heap.size w4 v (plainP ⟨low, zs⟩).cs := hr
      obtain ⟨_, _, d0, d1, f0, f1⟩ := HC.out w4 (HB3.out.trans (hb4.mono (by omega)))
      have HR := Lib.hid hr
      have HB4 := Lib.hid (HBW.out.trans ((HB3.out.trans (hb4.mono (by omega))).mono HBW.out.size))
      obtain ⟨g4, gg, cap4, rfl, _⟩ := hr.shape
      clear hr hb4
      go_wp2
      refine bodyPost_ret (v := .tuple #[plV 0 (.slice g4 (plainP ⟨low, zs⟩).cs.length cap4), .bool true]) ?_ rfl ⟨⟨.slice g4 (plainP ⟨low, zs⟩).cs.length cap4, ?_, resRow1 (.int .i64 0) (.slice g4 (plainP ⟨low, zs⟩).cs.length cap4) HR.out (by omega)⟩, resBelow1 (.int .i64 0) (.slice g4 (plainP ⟨low, zs⟩).cs.length cap4) HB4.out⟩
      · simp [results, Try.results25, go_sem, d0, d1, plV, doneP]
      · show _ = Ending.returned (.tuple #[plV (plainP ⟨low, zs⟩).low _, .bool true])
        rw [HPLL.out]

def plainedP (p : Pl) : Pl := doneP (polyB p) (plainP p)
theorem plained_fit {w : World} {low : Int} {zs : List Int} {a : Option Addr} {n : Nat} {b : Bool} {p : Pl} (_ : Ints w a n zs) (_ : polyB ⟨low, zs⟩ = b) (hp : plainedP ⟨low, zs⟩ = p) : p.cs.length ≤ 200 :=
  doneP_len plain_polyB hp
theorem sPolyPlain_law {low : Int} {zs : List Int} {a : Option Addr} {n : Nat} {b : Bool} {pl : Int} {pc : List Int} {w : World} (hs : Ints w a n zs) (hb : polyB ⟨low, zs⟩ = b) (hp : plainedP ⟨low, zs⟩ = ⟨pl, pc⟩) :
    Calls Try.prog 26 #[plV low (.slice a n n)] w fun e w' => (∃ v, e = .returned (.tuple #[plV pl v, .bool b]) ∧ IntRow w.heap.size w' v pc) ∧ Below w.heap.size w w' := by
  have h := sPolyPlain_any low zs a n n b w hs hb
  unfold plainedP at hp
  rwa [← hb, hp, hb] at h
theorem iPolyPlain_law {low : Int} {zs : List Int} {a : Option Addr} {n : Nat} {b : Bool} {pl : Int} {pc : List Int} {w : World} (hs : Ints w a n zs) (hb : polyB ⟨low, zs⟩ = b) (hp : plainedP ⟨low, zs⟩ = ⟨pl, pc⟩) :
    Calls Try.prog 25 #[plV low (.slice a n n)] w fun e w' => (∃ v, e = .returned (.tuple #[plV pl v, .bool b]) ∧ IntRow w.heap.size w' v pc) ∧ Below w.heap.size w w' := by
  have h := iPolyPlain_any low zs a n n b w hs (Nat.le_refl _) hb
  unfold plainedP at hp
  rwa [← hb, hp, hb] at h

end Go.Proofs.Ytakfobihakbefaa

/- Regions that draw their order, make memory and lay a box: the law of make at a step; a box that was laid somewhere on the way. -/

namespace Go.Proofs.Ytakfobihakbefaa
open Go.RowKit

theorem step_make {P : Program} {w : World} {ops : Array Oper} {o : Oper} {a : Act} {K : Act → World → Prop} {Q : Exit → Act → World → Prop} {E : Prop} (hgd : o.guard = none) (l c : Operand) (t : TypeId)
    (ho : o.op = .makeSlice t l c) (base : Nat) (e : TypeId) (i : TypeInfo) (z : Value) (size : Nat) (h1 : P.underlying t = some (.slice e)) (h2 : P.info? e = some i) (h3 : i.zero = some z) (h4 : i.size = size)
    (n : Nat) (hl : a.eval l = .int .i64 (n : Int)) (hc : a.eval c = .int .i64 (n : Int)) (b2 : i.bytes * n ≤ 281474976710656) (b3 : n ≤ maxLen) (b4 : base ≤ w.heap.size)
    (h : ∀ g w', w.heap.size ≤ g → w'.ownsRow base e size (.slice (some ⟨g, 0, none⟩) n n) n (madeCells z.cells (n * size)).toList → w.grownBy w' none → K (a.put o.dst (.slice (some ⟨g, 0, none⟩) n n)) w') :
    if Region.wanted o (yielded ops a.tmps) = true then Oper.wp P o a w K Q else E := by
  have hw : Region.wanted o (yielded ops a.tmps) = true := by simp [Region.wanted, hgd]
  rw [if_pos hw]
  obtain ⟨w', hrun, r1, r2⟩ := run_make_full (P := P) (w := w) base t e i z size h1 h2 h3 h4 .i64 .i64 n b2 b3 b4
  unfold Oper.wp
  simp [execOp, ho, hl, hc, hrun, Result.andThen]
  exact h _ w' (Nat.le_refl _) r1 r2

/-- A box of a polynomial that still holds zeros. -/
def BoxZ (w : World) (j : Nat) : Prop := j < w.heap.size ∧ w.cell? ⟨j, 0, none⟩ = some (.int .i64 0) ∧ w.cell? ⟨j, 1, none⟩ = some (.slice none 0 0) ∧ w.frozen? ⟨j, 0, none⟩ = false ∧ w.frozen? ⟨j, 1, none⟩ = false
theorem BoxZ.below {w w' : World} {j : Nat} (h : BoxZ w j) (hb : Below w.heap.size w w') : BoxZ w' j := by
  have e := hb.block j h.1
  refine ⟨Nat.lt_of_lt_of_le h.1 hb.size, ?_, ?_, ?_, ?_⟩
  · rw [← h.2.1]; simp [World.cell?, e]
  · rw [← h.2.2.1]; simp [World.cell?, e]
  · rw [← h.2.2.2.1]; simp [World.frozen?, e]
  · rw [← h.2.2.2.2]; simp [World.frozen?, e]
theorem BoxZ.new (w : World) : BoxZ (w.alloc (.cells #[.int .i64 0, .slice none 0 0] 25)) w.heap.size := by
  obtain ⟨d0, d1, f0, f1⟩ := resCells (w := w) (w1 := w.alloc (.cells #[.int .i64 0, .slice none 0 0] 25)) (r := w.heap.size) rfl ((Below.refl _ _))
  exact ⟨by simp, d0, d1, f0, f1⟩
/-- It was laid just now. -/
theorem BoxZ.of {w w' : World} (hb : Below (w.alloc (.cells #[.int .i64 0, .slice none 0 0] 25)).heap.size (w.alloc (.cells #[.int .i64 0, .slice none 0 0] 25)) w') : BoxZ w' w.heap.size := (BoxZ.new w).below hb
theorem BoxZ.ofd {w w' : World} (hb : Below (w.alloc (.cells #[.int .i64 0, .slice none 0 0] 25)).drew.heap.size (w.alloc (.cells #[.int .i64 0, .slice none 0 0] 25)).drew w') : BoxZ w' w.heap.size :=
  (BoxZ.new w).below (Below.trans (Below.refl _ _).drew hb)
theorem BoxZ.lt {w w' : World} {o : Obj} (_ : Below (w.alloc o).heap.size (w.alloc o) w') : w.heap.size < (w.alloc o).heap.size := by rw [World.size_alloc]; omega
theorem below_alloc {b : Nat} {w w1 w2 : World} {o : Obj} (h : Below b w w1) (hs : b ≤ w1.heap.size) (hb : Below (w1.alloc o).heap.size (w1.alloc o) w2) : Below b w w2 :=
  (h.alloc hs o).trans (hb.mono (by rw [World.size_alloc]; omega))
theorem below_of_grown {w w' : World} (h : w.grownBy w' none) : Below w.heap.size w w' := (Below.refl _ _).grown h (Nat.le_refl _) (fun j e => by cases e)
/-- The box is filled. -/
theorem BoxZ.fill {w : World} {j : Nat} {x y : Value} (h : BoxZ w j) : BoxAt ((w.setCell ⟨j, 0, none⟩ x).setCell ⟨j, 1, none⟩ y) j x y := by
  obtain ⟨h0, h1, h2, _, _⟩ := h
  refine ⟨by simp; exact h0, ?_, ?_⟩
  · go_simp
  · go_simp
theorem own_raise {w : World} {base size : Nat} {e : TypeId} {g n c : Nat} {xs : List Value} (h : w.ownsRow base e size (.slice (some ⟨g, 0, none⟩) n c) n xs) : w.ownsRow g e size (.slice (some ⟨g, 0, none⟩) n c) n xs := by
  obtain ⟨h1, h2⟩ := h
  refine ⟨h1, ?_⟩
  rcases h2 with ⟨e, _⟩ | ⟨g', cap, cur, e, hb, rest⟩
  · cases e
  · simp only [Value.slice.injEq, Option.some.injEq, Addr.mk.injEq] at e
    obtain ⟨⟨rfl, _, _⟩, _, rfl⟩ := e
    exact .inr ⟨g, c, cur, rfl, Nat.le_refl _, rest⟩
theorem run_makeI (n : Nat) (hn : n ≤ 1048576) (V : World) : (Instr.makeSlice 23 (.int .i64 (n : Int)) (.int .i64 (n : Int))).run Try.prog V = .ok (.slice (some ⟨V.heap.size, 0, none⟩) n n) (V.alloc (.cells (madeCells (Value.cells (.int .i64 0)) (n * 1)) 3)) := by
  obtain ⟨i0, hi, hz0, hz1, hz2⟩ := info_parts infoInt
  have hr := run_make (P := Try.prog) V 23 3 i0 (.int .i64 0) Try.underlying23 hi hz0 .i64 .i64 n n (by omega) (Int.le_refl _) (by rw [hz2]; omega) (by omega)
  rw [hz1] at hr
  simpa using hr
/-- A box that holds x and a new row of n ints, behind a region that lays both. -/
def RegMk (w wx : World) (s x : Value) (n : Nat) (mc : Array Value) : Prop :=
  ∃ j g : Nat, s = .pointer (some ⟨j, 0, none⟩) ∧ BoxAt wx j x (.slice (some ⟨g, 0, none⟩) n n) ∧ w.heap.size ≤ j ∧ wx.ownsRow w.heap.size 3 1 (.slice (some ⟨g, 0, none⟩) n n) n mc.toList ∧ g ≠ j ∧ Below w.heap.size w wx
theorem regA {w V : World} {x : Value} {n : Nat} {mc : Array Value} (hB : Below w.heap.size w V) (hn : n ≤ maxLen) (hm : mc.size = n * 1) :
    RegMk w ((V.alloc (.cells mc 3)).alloc (.cells #[x, .slice (some ⟨V.heap.size, 0, none⟩) n n] 25)) (.pointer (some ⟨V.heap.size + 1, 0, none⟩)) x n mc := by
  have h1 := boxNew (w := V.alloc (.cells mc 3)) (t := 25) (x := x) (y := .slice (some ⟨V.heap.size, 0, none⟩) n n) rfl
  rw [World.size_alloc] at h1
  have hs := hB.size
  refine ⟨V.heap.size + 1, V.heap.size, rfl, h1, by omega, ?_, by omega, (hB.alloc hs _).alloc (by rw [World.size_alloc]; omega) _⟩
  exact (World.ownsRow_lit V mc n hs hn hm).kept (World.grownBy_alloc _ _ none) (.inr (by simp [Value.ownBlock]))
theorem regB {w V : World} {x : Value} {n : Nat} {mc : Array Value} (hB : Below w.heap.size w V) (hn : n ≤ maxLen) (hm : mc.size = n * 1) :
    RegMk w ((V.alloc (.cells #[x, .slice (some ⟨V.heap.size + 1, 0, none⟩) n n] 25)).alloc (.cells mc 3)) (.pointer (some ⟨V.heap.size, 0, none⟩)) x n mc := by
  have h1 := boxNew (w := V) (t := 25) (x := x) (y := .slice (some ⟨V.heap.size + 1, 0, none⟩) n n) rfl
  have hs := hB.size
  refine ⟨V.heap.size, V.heap.size + 1, rfl, h1.below ((Below.refl _ _).alloc (Nat.le_refl _) _), hs, ?_, by omega, (hB.alloc hs _).alloc (by rw [World.size_alloc]; omega) _⟩
  have h2 := World.ownsRow_lit (base := w.heap.size) (V.alloc (.cells #[x, .slice (some ⟨V.heap.size + 1, 0, none⟩) n n] 25)) mc n (e := 3) (size := 1) (by rw [World.size_alloc]; omega) hn hm
  rw [World.size_alloc] at h2
  exact h2
theorem regC {w V : World} {j : Nat} {x : Value} {n : Nat} {mc : Array Value} (hB : Below w.heap.size w V) (hZ : BoxZ V j) (hj : w.heap.size ≤ j) (hn : n ≤ maxLen) (hm : mc.size = n * 1) :
    RegMk w (((V.setCell ⟨j, 0, none⟩ x).setCell ⟨j, 1, none⟩ (.slice (some ⟨V.heap.size, 0, none⟩) n n)).alloc (.cells mc 3)) (.pointer (some ⟨j, 0, none⟩)) x n mc := by
  have h1 := hZ.fill (x := x) (y := .slice (some ⟨V.heap.size, 0, none⟩) n n)
  have hs := hB.size
  have hz : ((V.setCell ⟨j, 0, none⟩ x).setCell ⟨j, 1, none⟩ (.slice (some ⟨V.heap.size, 0, none⟩) n n)).heap.size = V.heap.size := by simp
  have hb2 : Below w.heap.size w ((V.setCell ⟨j, 0, none⟩ x).setCell ⟨j, 1, none⟩ (.slice (some ⟨V.heap.size, 0, none⟩) n n)) := (hB.setCell (p := ⟨j, 0, none⟩) hj _).setCell (p := ⟨j, 1, none⟩) hj _
  refine ⟨j, V.heap.size, rfl, h1.below ((Below.refl _ _).alloc (Nat.le_refl _) _), hj, ?_, by have := hZ.1; omega, hb2.alloc (by omega) _⟩
  have h2 := World.ownsRow_lit (base := w.heap.size) ((V.setCell ⟨j, 0, none⟩ x).setCell ⟨j, 1, none⟩ (.slice (some ⟨V.heap.size, 0, none⟩) n n)) mc n (e := 3) (size := 1) (by omega) hn hm
  rw [hz] at h2
  exact h2
theorem made_zero (low : Int) (n : Nat) : (madeCells (Value.cells (.int .i64 0)) (n * 1)).toList = intsV (listP (fun _ => 0) low n) := by
  rw [show Value.cells (.int .i64 0) = #[.int .i64 0] from rfl, toList_madeCells_one, listP_zero]
  simp [intsV]
theorem made_size (n : Nat) : (madeCells (Value.cells (.int .i64 0)) (n * 1)).size = n * 1 := by
  have h := made_zero 0 n
  have e : (madeCells (Value.cells (.int .i64 0)) (n * 1)).toList.length = n := by rw [h, intsV_len, listP_len]
  rw [Array.length_toList] at e
  omega

end Go.Proofs.Ytakfobihakbefaa

/- A law's answer from two polynomials: a region that draws its order, makes memory and lays a box. -/

namespace Go.Proofs.Ytakfobihakbefaa
open Go.RowKit

theorem ints_on {w c c' : World} {a : Option Addr} {n : Nat} {zs : List Int} (h : Ints w a n zs) (hw : Below w.heap.size w c) (hx : Below c.heap.size c c') : Ints c' a n zs := h.below (hw.trans (hx.mono hw.size))
theorem rowSet {w : World} {base j o : Nat} {v x : Value} {zs : List Int} (h : IntRow base w v zs) (hj : ∀ k, v.ownBlock = some k → j < k) : IntRow base (w.setCell ⟨j, o, none⟩ x) v zs := by
  unfold IntRow at h ⊢
  have h' := h
  rcases h.2 with ⟨rfl, h0⟩ | ⟨g, cap, cur, rfl, hb, _⟩
  · exact ⟨h.1, .inl ⟨rfl, h0⟩⟩
  · exact ownsRow_base (ownsRow_setCell_below (own_raise h') (a := ⟨j, o, none⟩) (hj g rfl) x) hb
/-- The answer (p, b) lies in a box, its coefficients in memory of their own. -/
def AnsMk (w wx : World) (s1 s2 : Value) (pl : Int) (pc : List Int) (L : Nat) (b : Bool) : Prop :=
  ∃ (j : Nat) (a : Option Addr) (c : Nat), s1 = .pointer (some ⟨j, 0, none⟩) ∧ s2 = .bool b ∧ BoxAt wx j (.int .i64 pl) (.slice a L c) ∧ w.heap.size ≤ j ∧ IntRow w.heap.size wx (.slice a L c) pc ∧ (∀ k, (Value.slice a L c).ownBlock = some k → k ≠ j) ∧ Below w.heap.size w wx
theorem ansA {w V : World} {a : Option Addr} {L c base : Nat} {pl : Int} {pc : List Int} {b : Bool} (hB : Below w.heap.size w V) (hr : IntRow base V (.slice a L c) pc) (hb : w.heap.size ≤ base) :
    AnsMk w (V.alloc (.cells #[.int .i64 pl, .slice a L c] 25)) (.pointer (some ⟨V.heap.size, 0, none⟩)) (.bool b) pl pc L b :=
  ⟨V.heap.size, a, c, rfl, rfl, boxNew rfl, hB.size, (hr.mono hb).below ((Below.refl _ _).alloc (Nat.le_refl _) _), fun k e => by have := own_lt hr k e; omega, hB.alloc hB.size _⟩
theorem ansC {w V : World} {a : Option Addr} {L c base j : Nat} {pl : Int} {pc : List Int} {b : Bool} (hB : Below w.heap.size w V) (hr : IntRow base V (.slice a L c) pc) (hb : w.heap.size ≤ base) (hZ : BoxZ V j) (hj : w.heap.size ≤ j) (hn : ∀ k, (Value.slice a L c).ownBlock = some k → j < k) :
    AnsMk w ((V.setCell ⟨j, 0, none⟩ (.int .i64 pl)).setCell ⟨j, 1, none⟩ (.slice a L c)) (.pointer (some ⟨j, 0, none⟩)) (.bool b) pl pc L b :=
  ⟨j, a, c, rfl, rfl, hZ.fill, hj, rowSet (rowSet (hr.mono hb) hn) hn, fun k e => by have := hn k e; omega, (hB.setCell (p := ⟨j, 0, none⟩) hj _).setCell (p := ⟨j, 1, none⟩) hj _⟩
theorem below_drewAlloc {b : Nat} {w w1 w2 : World} {o : Obj} (h : Below b w w1) (hs : b ≤ w1.heap.size) (hb : Below (w1.alloc o).drew.heap.size (w1.alloc o).drew w2) : Below b w w2 :=
  ((h.alloc hs o).drew).trans (hb.mono (by show b ≤ (w1.alloc o).heap.size; rw [World.size_alloc]; omega))

end Go.Proofs.Ytakfobihakbefaa

/- Being alike: slices.Equal at ints, the model's PolyAlike. -/

namespace Go.Proofs.Ytakfobihakbefaa
open Go.RowKit

set_option maxRecDepth 100000 in
set_option maxHeartbeats 4000000 in
theorem equalI_any (x y : List Int) (a1 a2 : Option Addr) (c1 c2 n1 n2 : Nat) (b : Bool) (w : World) (h1 : Ints w a1 n1 x) (h2 : Ints w a2 n2 y) (hb : decide (x = y) = b) :
    Calls Try.prog 79 #[.slice a1 n1 c1, .slice a2 n2 c2] w fun e w' => e = .returned (.bool b) ∧ Below w.heap.size w w' := by
  have hm := h1.max
  unfold maxLen at hm
  have H1 := Lib.hid h1
  have H2 := Lib.hid h2
  have HB := Lib.hid hb
  have HN1 := Lib.hid h1.len
  have HN2 := Lib.hid h2.len
  clear hb h1 h2
  go_enter Try.func79, Try.ntmps79
  by_cases hn : n1 = n2
  · subst hn
    have hnn : ((n1 : Int) != (n1 : Int)) = false := by simp
    go_wp2_with fail
    go_loopw [5, 13] (fun _ i wr => ∃ k : Nat, k ≤ n1 ∧ i = .int .i64 (k : Int) ∧ Hid (∀ i, i < k → x.getD i 0 = y.getD i 0) ∧ Below w.heap.size w wr) (fun _ i _ => n1 - (intOf i).toNat)
    case atStart => exact ⟨0, Nat.zero_le _, rfl, Lib.hid fun i h => absurd h (Nat.not_lt_zero _), Below.refl _ _⟩
    case round =>
      obtain ⟨k, hk, rfl, HK, hB⟩ := hrel
      have hki : (0 : Int) ≤ (k : Int) := Int.natCast_nonneg _
      by_cases hlt : k < n1
      · have hlti : (k : Int) < (n1 : Int) := by omega
        obtain ⟨z1, rfl, hb1, hc1⟩ := (H1.out.below hB).at_ (by omega)
        obtain ⟨z2, rfl, hb2, hc2⟩ := (H2.out.below hB).at_ (by omega)
        have hkx : k < x.length := by rw [HN1.out]; exact hlt
        have hky : k < y.length := by rw [HN2.out]; exact hlt
        obtain ⟨u, hu⟩ : ∃ u, x[k] = u := ⟨_, rfl⟩
        obtain ⟨v, hv⟩ : ∃ v, y[k] = v := ⟨_, rfl⟩
        have e1 := hc1 k hkx
        have e2 := hc2 k hky
        rw [hu] at e1
        rw [hv] at e2
        have hgu : x.getD k 0 = u := by rw [List.getD_eq_getElem?_getD, List.getElem?_eq_getElem hkx, hu]; rfl
        have hgv : y.getD k 0 = v := by rw [List.getD_eq_getElem?_getD, List.getElem?_eq_getElem hky, hv]; rfl
        have HGU := Lib.hid hgu
        have HGV := Lib.hid hgv
        clear hu hv hc1 hc2 hgu hgv
        by_cases huv : u = v
        · subst huv
          have hne : (u != u) = false := by simp
          go_wp2
          go_quiet (fail)
          go_wp2
          go_roundw
          case rel => exact ⟨k + 1, by omega, by go_num, Lib.hid fun i h => by
            by_cases e : i = k
            · rw [e, HGU.out, HGV.out]
            · exact HK.out i (by omega), below_drewN hB _⟩
          case measure => simp [intOf]; omega
        · have hne : (u != v) = true := by simpa using huv
          have hbf : b = false := by
            rw [← HB.out]
            refine decide_eq_false fun h => huv ?_
            rw [← HGU.out, ← HGV.out, h]
          subst hbf
          go_wp2
          go_quiet (fail)
          go_wp2
          go_ret
          exact ⟨rfl, below_drewN hB _⟩
      · obtain rfl : k = n1 := by omega
        have hbt : b = true := by
          rw [← HB.out]
          have e := eq_getD (x := x) (y := y) (by rw [HN1.out, HN2.out]) (fun i hi => HK.out i (by rw [← HN1.out]; exact hi))
          exact decide_eq_true e
        subst hbt
        go_wp2
        go_ret
        exact ⟨rfl, hB⟩
  · have hbf : b = false := by
      rw [← HB.out]
      exact decide_eq_false fun h => hn (by rw [← HN1.out, ← HN2.out, h])
    subst hbf
    have hni : ¬ (n1 : Int) = (n2 : Int) := by omega
    have hnn : ((n1 : Int) != (n2 : Int)) = true := by simpa using hni
    go_wp2
    go_ret
    exact ⟨rfl, Below.refl _ _⟩

theorem doneP_mem {b : Bool} {q p : Pl} (hb : b = true → polyB q = true) (hp : doneP b q = p) : ∀ z ∈ p.cs, -9223372036854775808 ≤ z ∧ z ≤ 9223372036854775807 := fun z hz => by
  subst hp
  cases b with
  | false => cases hz
  | true =>
    have := coefIn_yes (polyB_coef (hb rfl) z hz)
    omega
/-- Whether two polynomials differ by a unit only. -/
def alikeB (a b : Pl) : Bool := polyB a && (polyB b && decide ((plainP a).cs = (plainP b).cs))
theorem plain_zero {p : Pl} (h : polyB p = true) : (plainP p).low = 0 := by
  by_cases h0 : 0 < p.cs.length
  · exact plain_low h0
  · unfold plainP
    rw [if_pos (by omega)]
    rcases (polyB_trim h).1 with ⟨_, h⟩ | ⟨h, _⟩
    · exact h
    · exact absurd (List.length_eq_zero_iff.1 (by omega)) h

set_option maxRecDepth 100000 in
set_option maxHeartbeats 4000000 in
theorem sPolyAlike_any (l1 l2 : Int) (x y : List Int) (a1 a2 : Option Addr) (c1 c2 n1 n2 : Nat) (ba bb t : Bool) (w : World) (h1 : Ints w a1 n1 x) (h2 : Ints w a2 n2 y)
    (hba : polyB ⟨l1, x⟩ = ba) (hbb : polyB ⟨l2, y⟩ = bb) (ht : (ba && (bb && decide ((plainP ⟨l1, x⟩).cs = (plainP ⟨l2, y⟩).cs))) = t) :
    Calls Try.prog 30 #[plV l1 (.slice a1 n1 c1), plV l2 (.slice a2 n2 c2)] w fun e w' => e = .returned (.bool t) ∧ Below w.heap.size w w' := by
  have hmx : Try.prog.follows .mixedOrders = true := by kernel_rfl
  obtain ⟨W, hW⟩ : ∃ W, (w.alloc (.cells #[.int .i64 l1, .slice a1 n1 c1] 25)).alloc (.cells #[.int .i64 l2, .slice a2 n2 c2] 25) = W := ⟨_, rfl⟩
  have hsz : W.heap.size = w.heap.size + 2 := by rw [← hW]; simp
  have hbW : Below w.heap.size w W := by rw [← hW]; exact ((Below.refl _ w).alloc (Nat.le_refl _) _).alloc (by simp) _
  have HC : Hid (∀ w1, Below W.heap.size W w1 → _) := Lib.hid fun w1 (hg : Below W.heap.size W w1) => twoCells hW hg
  have H1 := Lib.hid (h1.below hbW)
  have H2 := Lib.hid (h2.below hbW)
  have HBA := Lib.hid hba
  have HBB := Lib.hid hbb
  have HN1 := Lib.hid h1.len
  have HN2 := Lib.hid h2.len
  have HBW := Lib.hid hbW
  have HT := Lib.hid ht
  have v0 : ∀ p : BelowBy W, p.world.cell? ⟨w.heap.size, 0, none⟩ = some (.int .i64 l1) := fun p => (HC.out _ p.below).1
  have v1 : ∀ p : BelowBy W, p.world.cell? ⟨w.heap.size, 1, none⟩ = some (.slice a1 n1 c1) := fun p => (HC.out _ p.below).2.1
  have v2 : ∀ p : BelowBy W, p.world.cell? ⟨w.heap.size + 1, 0, none⟩ = some (.int .i64 l2) := fun p => (HC.out _ p.below).2.2.1
  have v3 : ∀ p : BelowBy W, p.world.cell? ⟨w.heap.size + 1, 1, none⟩ = some (.slice a2 n2 c2) := fun p => (HC.out _ p.below).2.2.2
  have HA : Hid (∀ p : BelowBy W, Calls Try.prog 74 #[plV l1 (.slice a1 n1 c1)] p.world fun e w' => e = .returned (.bool ba) ∧ Below p.world.heap.size p.world w') := Lib.hid fun p => sPolyIn_any l1 x a1 c1 n1 ba _ (H1.out.below p.below) HBA.out
  have HD : Hid (∀ p : BelowBy W, Calls Try.prog 74 #[plV l2 (.slice a2 n2 c2)] p.world fun e w' => e = .returned (.bool bb) ∧ Below p.world.heap.size p.world w') := Lib.hid fun p => sPolyIn_any l2 y a2 c2 n2 bb _ (H2.out.below p.below) HBB.out
  have HW := Lib.hid hW
  clear hW hbW h1 h2 hba hbb hsz ht
  go_enter Try.func30, Try.ntmps30
  go_upto_region 1 with fail
  rw [HW.out]
  cases ba with
  | false =>
    obtain rfl : t = false := by rw [← HT.out]; rfl
    refine wp_region_below hmx (by kernel_rfl) ?_
    repeat (((with_reducible refine wpQuiet_step (fun K hK => ?_)); go_simp; first | ((with_reducible refine hK _ ?_); clear hK K) | (refine (if_neg (by decide)).mpr ?_; (with_reducible refine hK _ ?_); clear hK K) | (apply Exists.intro; (with_reducible refine ⟨fun _ => ?_, hK _ ?_⟩); (go_at_call 74; exact Calls.bel (HA.out _)); clear hK K)))
    with_reducible refine wpQuiet_nil ?_
    rintro _ ⟨⟨V, hV⟩, rfl⟩
    clear v0 v1 v2 v3
    go_wp2
    go_ret
    exact ⟨rfl, HBW.out.trans (hV.mono HBW.out.size)⟩
  | true =>
    cases bb with
    | false =>
      obtain rfl : t = false := by rw [← HT.out]; rfl
      refine wp_region_below hmx (by kernel_rfl) ?_
      repeat (((with_reducible refine wpQuiet_step (fun K hK => ?_)); go_simp; first | ((with_reducible refine hK _ ?_); clear hK K) | (refine (if_neg (by decide)).mpr ?_; (with_reducible refine hK _ ?_); clear hK K) | (apply Exists.intro; (with_reducible refine ⟨fun _ => ?_, hK _ ?_⟩); (go_at_call 74; first | with_reducible exact Calls.bel (HA.out _) | with_reducible exact Calls.bel (HD.out _)); clear hK K) | (refine (if_pos (by decide)).mpr ?_; apply Exists.intro; (with_reducible refine ⟨fun _ => ?_, hK _ ?_⟩); (go_at_call 74; first | with_reducible exact Calls.bel (HA.out _) | with_reducible exact Calls.bel (HD.out _)); clear hK K)))
      with_reducible refine wpQuiet_nil ?_
      rintro _ ⟨⟨V, hV⟩, rfl⟩
      clear v0 v1 v2 v3
      go_wp2
      go_ret
      exact ⟨rfl, HBW.out.trans (hV.mono HBW.out.size)⟩
    | true =>
      clear v0 v1 v2 v3
      have hz1 := plain_zero HBA.out
      have hz2 := plain_zero HBB.out
      obtain ⟨_, hx200, _, _, hxc⟩ := polyB_trim HBA.out
      obtain ⟨_, hy200, _, _, hyc⟩ := polyB_trim HBB.out
      have hx200 : x.length ≤ 200 := hx200
      have hy200 : y.length ≤ 200 := hy200
      have hxc : ∀ i, -1000000000 ≤ x.getD i 0 ∧ x.getD i 0 ≤ 1000000000 := hxc
      have hyc : ∀ i, -1000000000 ≤ y.getD i 0 ∧ y.getD i 0 ≤ 1000000000 := hyc
      have HXC := Lib.hid hxc
      have HYC := Lib.hid hyc
      rw [HN1.out] at hx200
      rw [HN2.out] at hy200
      have hlx := plain_len ⟨l1, x⟩
      have hly := plain_len ⟨l2, y⟩
      obtain ⟨p1, hp1⟩ : ∃ p, (plainP ⟨l1, x⟩).cs = p := ⟨_, rfl⟩
      obtain ⟨p2, hp2⟩ : ∃ p, (plainP ⟨l2, y⟩).cs = p := ⟨_, rfl⟩
      rw [hp1] at hlx
      rw [hp2] at hly
      have htt := HT.out
      rw [hp1, hp2, Bool.true_and, Bool.true_and] at htt
      have HTT : Hid (decide (p1 = p2) = t) := Lib.hid htt
      have HP1 : Hid (∀ V, Below W.heap.size W V → Calls Try.prog 77 #[plV l1 (.slice a1 n1 c1)] V fun e w' => (∃ a cap, e = .returned (plV 0 (.slice a n1 cap)) ∧ Ints w' a n1 p1) ∧ Below V.heap.size V w') := Lib.hid fun V hV => by
        have h := l6pPlain_any l1 x a1 c1 n1 V (H1.out.below hV) (by omega) HXC.out
        rw [hz1, hp1] at h
        exact h
      have HP2 : Hid (∀ V, Below W.heap.size W V → Calls Try.prog 77 #[plV l2 (.slice a2 n2 c2)] V fun e w' => (∃ a cap, e = .returned (plV 0 (.slice a n2 cap)) ∧ Ints w' a n2 p2) ∧ Below V.heap.size V w') := Lib.hid fun V hV => by
        have h := l6pPlain_any l2 y a2 c2 n2 V (H2.out.below hV) (by omega) HYC.out
        rw [hz2, hp2] at h
        exact h
      clear hz1 hz2 hp1 hp2 hxc hyc hlx hly htt
      obtain ⟨k0, k1, k2, k3⟩ := HC.out W (Below.refl _ _)
      have HBk : Hid (Below W.heap.size W W) := Lib.hid (Below.refl _ _)
      go_region_held3 (fun w' : World => w'.cell? ⟨w.heap.size, 0, none⟩ = some (.int .i64 l1) ∧ w'.cell? ⟨w.heap.size, 1, none⟩ = some (.slice a1 n1 c1) ∧ w'.cell? ⟨w.heap.size + 1, 0, none⟩ = some (.int .i64 l2) ∧ w'.cell? ⟨w.heap.size + 1, 1, none⟩ = some (.slice a2 n2 c2)) (first | go_keep | exact ⟨k0, k1, k2, k3⟩)
        (first
          | (go_at_call 74
             first
             | with_reducible refine (sPolyIn_any l1 x a1 c1 n1 true _ (H1.out.below (by first | exact HBk.out | exact HBk.out.drew)) HBA.out).mono ?_
             | with_reducible refine (sPolyIn_any l2 y a2 c2 n2 true _ (H2.out.below (by first | exact HBk.out | exact HBk.out.drew)) HBB.out).mono ?_
             rintro e V ⟨rfl, hbv⟩
             have hbn : Below W.heap.size W V := by
               first
               | exact HBk.out.trans (hbv.mono HBk.out.size)
               | exact HBk.out.drew.trans (hbv.mono HBk.out.size)
             clear HBk
             have HBk := Lib.hid hbn
             obtain ⟨k0, k1, k2, k3⟩ := HC.out V hbn
             clear hbv hbn)
          | (go_at_call 77
             with_reducible refine (HP1.out _ HBk.out).mono ?_
             rintro e V ⟨⟨g1, d1, rfl, hi⟩, hbv⟩
             have HI1 := Lib.hid hi
             have hbn : Below W.heap.size W V := HBk.out.trans (hbv.mono HBk.out.size)
             clear HBk
             have HBk := Lib.hid hbn
             obtain ⟨k0, k1, k2, k3⟩ := HC.out V hbn
             clear hbv hbn hi)
          | (go_at_call 77
             with_reducible refine (HP2.out _ HBk.out).mono ?_
             rintro e V ⟨⟨g2, d2, rfl, hi⟩, hbv⟩
             have HI1' := Lib.hid (HI1.out.below hbv)
             clear HI1
             have HI1 := HI1'
             clear HI1'
             have HI2 := Lib.hid hi
             have hbn : Below W.heap.size W V := HBk.out.trans (hbv.mono HBk.out.size)
             clear HBk
             have HBk := Lib.hid hbn
             obtain ⟨k0, k1, k2, k3⟩ := HC.out V hbn
             clear hbv hbn hi)
          | (go_at_call 81
             refine (l6pSame_any 0 0 p1 p2 g1 g2 d1 d2 n1 n2 t _ HI1.out HI2.out (by rw [← HTT.out]; simp)).mono ?_
             rintro e V ⟨rfl, hbv⟩
             have hbn : Below W.heap.size W V := HBk.out.trans (hbv.mono HBk.out.size)
             clear HBk
             have HBk := Lib.hid hbn
             obtain ⟨k0, k1, k2, k3⟩ := HC.out V hbn
             clear hbv hbn))
      go_wp2
      go_ret
      exact ⟨ret_bool (by cases t <;> rfl), HBW.out.trans (HBk.out.mono HBW.out.size)⟩

end Go.Proofs.Ytakfobihakbefaa

/- The program's PolyAlike; both sides as the law wants them. -/

namespace Go.Proofs.Ytakfobihakbefaa
open Go.RowKit

set_option maxRecDepth 100000 in
set_option maxHeartbeats 4000000 in
theorem iPolyAlike_any (l1 l2 : Int) (x y : List Int) (a1 a2 : Option Addr) (c1 c2 n1 n2 : Nat) (ba bb t : Bool) (w : World) (h1 : Ints w a1 n1 x) (h2 : Ints w a2 n2 y) (hc1 : n1 ≤ c1) (hc2 : n2 ≤ c2)
    (hba : polyB ⟨l1, x⟩ = ba) (hbb : polyB ⟨l2, y⟩ = bb) (ht : (ba && (bb && decide ((plainP ⟨l1, x⟩).cs = (plainP ⟨l2, y⟩).cs))) = t) :
    Calls Try.prog 28 #[plV l1 (.slice a1 n1 c1), plV l2 (.slice a2 n2 c2)] w fun e w' => e = .returned (.bool t) ∧ Below w.heap.size w w' := by
  obtain ⟨W, hW⟩ : ∃ W, (w.alloc (.cells #[.int .i64 l1, .slice a1 n1 c1] 25)).alloc (.cells #[.int .i64 l2, .slice a2 n2 c2] 25) = W := ⟨_, rfl⟩
  have hbW : Below w.heap.size w W := by rw [← hW]; exact ((Below.refl _ w).alloc (Nat.le_refl _) _).alloc (by simp) _
  have HC : Hid (∀ w1, Below W.heap.size W w1 → _) := Lib.hid fun w1 (hg : Below W.heap.size W w1) => twoCells hW hg
  have hC := twoCells hW (Below.refl _ _)
  rw [← hW] at hC
  obtain ⟨q0, q1, q2, q3⟩ := hC
  have H1 := Lib.hid (h1.below hbW)
  have H2 := Lib.hid (h2.below hbW)
  have HBA := Lib.hid hba
  have HBB := Lib.hid hbb
  have HBW := Lib.hid hbW
  have HT := Lib.hid ht
  have HW := Lib.hid hW
  clear hW hbW h1 h2 hba hbb ht
  obtain ⟨p1, hp1⟩ : ∃ p, doneP ba (plainP ⟨l1, x⟩) = p := ⟨_, rfl⟩
  obtain ⟨p2, hp2⟩ : ∃ p, doneP bb (plainP ⟨l2, y⟩) = p := ⟨_, rfl⟩
  have hm1 : ∀ z ∈ p1.cs, -9223372036854775808 ≤ z ∧ z ≤ 9223372036854775807 := doneP_mem (fun e => plain_polyB (HBA.out.trans e)) hp1
  have hm2 : ∀ z ∈ p2.cs, -9223372036854775808 ≤ z ∧ z ≤ 9223372036854775807 := doneP_mem (fun e => plain_polyB (HBB.out.trans e)) hp2
  have HM1 := Lib.hid hm1
  have HM2 := Lib.hid hm2
  have HA := Lib.hid (iPolyPlain_any l1 x a1 c1 n1 ba W H1.out hc1 HBA.out)
  rw [hp1] at HA
  have HD : Hid (∀ V, Below W.heap.size W V → Calls Try.prog 25 #[plV l2 (.slice a2 n2 c2)] V fun e w' => (∃ v, e = .returned (.tuple #[plV p2.low v, .bool bb]) ∧ IntRow V.heap.size w' v p2.cs) ∧ Below V.heap.size V w') := Lib.hid fun V hV => by
    have h := iPolyPlain_any l2 y a2 c2 n2 bb V (H2.out.below hV) hc2 HBB.out
    rwa [hp2] at h
  have htt : (ba && (bb && decide (p1.cs = p2.cs))) = t := by
    rw [← HT.out, ← hp1, ← hp2]
    cases ba with
    | false => rfl
    | true =>
      cases bb with
      | false => rfl
      | true => rfl
  have HTT := Lib.hid htt
  clear hm1 hm2 hp1 hp2 htt
  go_enter Try.func28, Try.ntmps28
  go_wp2_with fail
  rw [HW.out]
  clear q0 q1 q2 q3
  refine HA.out.mono ?_
  rintro e w1 ⟨⟨v, rfl, hr⟩, hb1⟩
  obtain ⟨g1, d1, rfl, hd1, hi1⟩ := hr.readc HM1.out
  obtain ⟨m1, hm1⟩ : ∃ m, p1.cs.length = m := ⟨_, rfl⟩
  rw [hm1] at hi1 hd1 ⊢
  have hs1 := hb1.size
  obtain ⟨V, hV⟩ : ∃ V, w1.alloc (.cells #[.int .i64 p1.low, .slice g1 m1 d1] 25) = V := ⟨_, rfl⟩
  have hbV : Below w1.heap.size w1 V := by rw [← hV]; exact (Below.refl _ _).alloc (Nat.le_refl _) _
  have HE : Hid (∀ w2, Below V.heap.size V w2 → _) := Lib.hid fun w2 (hg : Below V.heap.size V w2) => oneBox hV hg
  have HBV := Lib.hid (hb1.trans (hbV.mono hs1))
  have hsV := HBV.out.size
  have HI1 := Lib.hid (hi1.below hbV)
  have hp := HC.out V HBV.out
  rw [← hV] at hp
  obtain ⟨q0, q1, q2, q3⟩ := hp
  have HV := Lib.hid hV
  clear hr hb1 hi1 hm1 hV hbV
  cases ba with
  | false =>
    obtain rfl : t = false := by rw [← HT.out]; rfl
    go_wp2
    go_ret
    rw [HV.out]
    exact ⟨rfl, HBW.out.trans (HBV.out.mono HBW.out.size)⟩
  | true =>
    go_wp2_with fail
    rw [HV.out]
    clear q0 q1 q2 q3
    refine (HD.out V HBV.out).mono ?_
    rintro e w2 ⟨⟨v, rfl, hr⟩, hb2⟩
    obtain ⟨g2, d2, rfl, hd2, hi2⟩ := hr.readc HM2.out
    obtain ⟨m2, hm2⟩ : ∃ m, p2.cs.length = m := ⟨_, rfl⟩
    rw [hm2] at hi2 hd2 ⊢
    obtain ⟨U, hU⟩ : ∃ U, w2.alloc (.cells #[.int .i64 p2.low, .slice g2 m2 d2] 25) = U := ⟨_, rfl⟩
    have hbU : Below w2.heap.size w2 U := by rw [← hU]; exact (Below.refl _ _).alloc (Nat.le_refl _) _
    have hVU : Below V.heap.size V U := hb2.trans (hbU.mono hb2.size)
    have hq := HE.out U hVU
    have hq2 := oneBox hU (Below.refl _ _)
    rw [← hU] at hq hq2
    obtain ⟨q0, q1⟩ := hq
    obtain ⟨q2, q3⟩ := hq2
    have HBU := Lib.hid (HBW.out.trans ((HBV.out.trans (hVU.mono hsV)).mono HBW.out.size))
    have HI1U := Lib.hid (HI1.out.below hVU)
    have HI2U := Lib.hid (hi2.below hbU)
    have HU := Lib.hid hU
    clear hr hb2 hi2 hm2 hU hbU hVU
    cases bb with
    | false =>
      obtain rfl : t = false := by rw [← HT.out]; rfl
      go_wp2
      go_ret
      rw [HU.out]
      exact ⟨rfl, HBU.out⟩
    | true =>
      have hte : decide (p1.cs = p2.cs) = t := by have := HTT.out; rwa [Bool.true_and, Bool.true_and] at this
      have HEQ := Lib.hid (equalI_any p1.cs p2.cs g1 g2 d1 d2 m1 m2 t U HI1U.out HI2U.out hte)
      clear hte
      go_wp2_with fail
      rw [HU.out]
      refine HEQ.out.mono ?_
      rintro e w3 ⟨rfl, hb3⟩
      have HB3 := Lib.hid (HBU.out.trans (hb3.mono HBU.out.size))
      clear hb3 q0 q1 q2 q3
      go_wp2
      go_ret
      exact ⟨ret_bool (by cases t <;> rfl), HB3.out⟩

/-! ### As the law wants them -/
theorem sPolyAlike_law {l1 l2 : Int} {x y : List Int} {a1 a2 : Option Addr} {n1 n2 : Nat} {b : Bool} {w : World} (h1 : Ints w a1 n1 x) (h2 : Ints w a2 n2 y) (hb : alikeB ⟨l1, x⟩ ⟨l2, y⟩ = b) :
    Calls Try.prog 30 #[plV l1 (.slice a1 n1 n1), plV l2 (.slice a2 n2 n2)] w fun e w' => e = .returned (.bool b) ∧ Below w.heap.size w w' :=
  sPolyAlike_any l1 l2 x y a1 a2 n1 n2 n1 n2 _ _ b w h1 h2 rfl rfl hb
theorem iPolyAlike_law {l1 l2 : Int} {x y : List Int} {a1 a2 : Option Addr} {n1 n2 : Nat} {b : Bool} {w : World} (h1 : Ints w a1 n1 x) (h2 : Ints w a2 n2 y) (hb : alikeB ⟨l1, x⟩ ⟨l2, y⟩ = b) :
    Calls Try.prog 28 #[plV l1 (.slice a1 n1 n1), plV l2 (.slice a2 n2 n2)] w fun e w' => e = .returned (.bool b) ∧ Below w.heap.size w w' :=
  iPolyAlike_any l1 l2 x y a1 a2 n1 n2 n1 n2 _ _ b w h1 h2 (Nat.le_refl _) (Nat.le_refl _) rfl rfl hb

end Go.Proofs.Ytakfobihakbefaa

/- Division, one step after the other (mathematics). -/

namespace Go.Proofs.Ytakfobihakbefaa
open Go.RowKit

/-- What comes out when so many have been found and so much is left. -/
def divFrom (bs qs : List Int) (n : Nat) (left : List Int) : Option (List Int × List Int) := (divGo bs n left).map fun p => (qs ++ p.1, p.2)
theorem divFrom_start (bs : List Int) (n : Nat) (left : List Int) : divFrom bs [] n left = divGo bs n left := by
  unfold divFrom
  cases divGo bs n left with
  | none => rfl
  | some p => rfl
theorem divFrom_step {bs qs left : List Int} {n : Nat} (h : stepB bs left = true) : divFrom bs qs (n + 1) left = divFrom bs (qs ++ [stepQ bs left]) n (subQ (stepQ bs left) bs left).tail := by
  unfold divFrom
  rw [divGo, if_pos h]
  cases divGo bs n (subQ (stepQ bs left) bs left).tail with
  | none => rfl
  | some p => simp
theorem divFrom_fail {bs qs left : List Int} {n : Nat} (h : stepB bs left = false) : divFrom bs qs (n + 1) left = none := by
  unfold divFrom
  rw [divGo, if_neg (by rw [h]; exact Bool.false_ne_true)]
  rfl
theorem divFrom_end (bs qs left : List Int) : divFrom bs qs 0 left = some (qs, left) := by
  unfold divFrom
  simp [divGo]

def LeftOK (left : List Int) : Prop := ∀ i, -4000000000000000000 ≤ left.getD i 0 ∧ left.getD i 0 ≤ 4000000000000000000
theorem step_parts {bs left : List Int} (h : stepB bs left = true) : (left.getD 0 0).tmod (bs.getD 0 0) = 0 ∧ coefIn (stepQ bs left) = true ∧ ∀ i, i < bs.length → leftIn (left.getD i 0 - stepQ bs left * bs.getD i 0) = true := by
  unfold stepB at h
  simp only [Bool.and_eq_true, decide_eq_true_eq, List.all_eq_true, List.mem_range] at h
  exact ⟨h.1, h.2.1, h.2.2⟩
theorem step_yes {bs left : List Int} (h1 : (left.getD 0 0).tmod (bs.getD 0 0) = 0) (h2 : coefIn (stepQ bs left) = true) (h3 : ∀ i, i < bs.length → leftIn (left.getD i 0 - stepQ bs left * bs.getD i 0) = true) : stepB bs left = true := by
  unfold stepB
  simp only [Bool.and_eq_true, decide_eq_true_eq, List.all_eq_true, List.mem_range]
  exact ⟨h1, h2, h3⟩
theorem step_no1 {bs left : List Int} (h1 : ¬ (left.getD 0 0).tmod (bs.getD 0 0) = 0) : stepB bs left = false := by
  cases h : stepB bs left with
  | false => rfl
  | true => exact absurd (step_parts h).1 h1
theorem step_no2 {bs left : List Int} (h2 : coefIn (stepQ bs left) = false) : stepB bs left = false := by
  cases h : stepB bs left with
  | false => rfl
  | true => rw [(step_parts h).2.1] at h2; exact absurd h2 (by decide)
theorem step_no3 {bs left : List Int} {i : Nat} (hi : i < bs.length) (h3 : leftIn (left.getD i 0 - stepQ bs left * bs.getD i 0) = false) : stepB bs left = false := by
  cases h : stepB bs left with
  | false => rfl
  | true => rw [(step_parts h).2.2 i hi] at h3; exact absurd h3 (by decide)
theorem leftIn_yes {z : Int} (h : leftIn z = true) : -4000000000000000000 ≤ z ∧ z ≤ 4000000000000000000 := by
  unfold leftIn inR at h
  simpa using h
theorem step_left {bs left : List Int} (hb : bs.length ≤ left.length) (h : stepB bs left = true) (hl : LeftOK left) : LeftOK (subQ (stepQ bs left) bs left).tail := fun i => by
  rw [tail_get, subQ_get _ _ _ _ hb]
  by_cases hi : i + 1 < bs.length
  · exact leftIn_yes ((step_parts h).2.2 (i + 1) hi)
  · rw [getD_far (l := bs) (by omega), Int.mul_zero, Int.sub_zero]
    exact hl _
theorem step_tail_len {bs left : List Int} (q : Int) {n : Nat} (h : left.length = n + 1) : (subQ q bs left).tail.length = n := by
  rw [List.length_tail, subQ_len, h]
  rfl
theorem step_head {bs left : List Int} (hb : bs.length ≤ left.length) (h : (left.getD 0 0).tmod (bs.getD 0 0) = 0) : (subQ (stepQ bs left) bs left).getD 0 0 = 0 := by
  rw [subQ_get _ _ _ _ hb]
  have e := Int.mul_tdiv_add_tmod (left.getD 0 0) (bs.getD 0 0)
  rw [h, Int.add_zero, Int.mul_comm] at e
  unfold stepQ
  omega
theorem tdiv_size {z b : Int} : -(z.natAbs : Int) ≤ z.tdiv b ∧ z.tdiv b ≤ (z.natAbs : Int) := by
  have h : (z.tdiv b).natAbs ≤ z.natAbs := by
    rw [Int.natAbs_tdiv]
    exact Nat.div_le_self _ _
  omega
theorem tmod_size {z b : Int} : -(z.natAbs : Int) ≤ z.tmod b ∧ z.tmod b ≤ (z.natAbs : Int) := by
  have h : (z.tmod b).natAbs ≤ z.natAbs := by
    rw [Int.natAbs_tmod]
    exact Nat.mod_le _ _
  omega

/-! ### The row in which what is left stands -/
def rowG (i : Nat) (left : List Int) (j : Nat) : Int := if j < i then 0 else left.getD (j - i) 0
def rowF (i k : Nat) (q : Int) (bs left : List Int) (j : Nat) : Int := if j < i then 0 else if j < i + k then left.getD (j - i) 0 - q * bs.getD (j - i) 0 else left.getD (j - i) 0
theorem rowG_zero (left : List Int) (n : Nat) (h : left.length = n) : listN (rowG 0 left) n = left := by
  subst h
  rw [listN_congr (g := fun i => left.getD i 0) (fun i _ => by unfold rowG; rw [if_neg (by omega), Nat.sub_zero]), listN_self]
theorem rowF_zero (i : Nat) (q : Int) (bs left : List Int) (n : Nat) : listN (rowF i 0 q bs left) n = listN (rowG i left) n :=
  listN_congr fun j _ => by
    unfold rowF rowG
    by_cases h : j < i
    · rw [if_pos h, if_pos h]
    · rw [if_neg h, if_neg h, if_neg (by omega)]
theorem rowF_next (i k : Nat) (q : Int) (bs left : List Int) (n : Nat) {x : Int} (hx : left.getD k 0 - q * bs.getD k 0 = x) : (intsV (listN (rowF i k q bs left) n)).set (i + k) (.int .i64 x) = intsV (listN (rowF i (k + 1) q bs left) n) :=
  listN_set (fun j hj => by
    unfold rowF
    by_cases h : j < i
    · rw [if_pos h, if_pos h]
    · rw [if_neg h, if_neg h]
      by_cases h2 : j < i + k
      · rw [if_pos h2, if_pos (by omega)]
      · rw [if_neg h2, if_neg (by omega)]) (by
    unfold rowF
    rw [if_neg (by omega), if_pos (by omega), show i + k - i = k by omega, hx])
theorem rowF_at (i k : Nat) (q : Int) (bs left : List Int) : rowF i k q bs left (i + k) = left.getD k 0 := by
  unfold rowF
  rw [if_neg (by omega), if_neg (by omega), show i + k - i = k by omega]
theorem rowG_at (i k : Nat) (left : List Int) : rowG i left (i + k) = left.getD k 0 := by
  unfold rowG
  rw [if_neg (by omega), show i + k - i = k by omega]
theorem rowF_done (i : Nat) (bs left : List Int) (n : Nat) (hb : bs.length ≤ left.length) (h : (left.getD 0 0).tmod (bs.getD 0 0) = 0) : listN (rowF i bs.length (stepQ bs left) bs left) n = listN (rowG (i + 1) (subQ (stepQ bs left) bs left).tail) n :=
  listN_congr fun j _ => by
    unfold rowF rowG
    by_cases h1 : j < i
    · rw [if_pos h1, if_pos (by omega)]
    · rw [if_neg h1]
      have e : (if j < i + bs.length then left.getD (j - i) 0 - stepQ bs left * bs.getD (j - i) 0 else left.getD (j - i) 0) = (subQ (stepQ bs left) bs left).getD (j - i) 0 := by
        rw [subQ_get _ _ _ _ hb]
        by_cases h2 : j < i + bs.length
        · rw [if_pos h2]
        · rw [if_neg h2, getD_far (l := bs) (by omega), Int.mul_zero, Int.sub_zero]
      rw [e]
      by_cases h3 : j = i
      · subst h3
        rw [if_pos (by omega), Nat.sub_self, step_head hb h]
      · rw [if_neg (by omega), tail_get, show j - (i + 1) + 1 = j - i by omega]
theorem zeroL_yes {l : List Int} (h : ∀ i, i < l.length → l.getD i 0 = 0) : zeroL l = true := by
  unfold zeroL
  rw [List.all_eq_true]
  intro z hz
  obtain ⟨i, hi, rfl⟩ := List.mem_iff_getElem.1 hz
  have := h i hi
  rw [List.getD_eq_getElem?_getD, List.getElem?_eq_getElem hi] at this
  exact decide_eq_true this
theorem zeroL_no {l : List Int} {i : Nat} (h : l.getD i 0 ≠ 0) : zeroL l = false := by
  have hi := getD_lt h
  cases e : zeroL l with
  | false => rfl
  | true =>
    unfold zeroL at e
    rw [List.all_eq_true] at e
    have := e _ (List.getElem_mem hi)
    rw [List.getD_eq_getElem?_getD, List.getElem?_eq_getElem hi] at h
    exact absurd (of_decide_eq_true this) h

theorem trim_nonzero {a : Pl} (h : Trim a) (h0 : 0 < a.cs.length) : a.cs.getD 0 0 ≠ 0 ∧ a.cs.getD (a.cs.length - 1) 0 ≠ 0 := by
  rcases h with ⟨h, _⟩ | ⟨_, h1, h2⟩
  · rw [h] at h0; exact absurd h0 (Nat.lt_irrefl _)
  · exact ⟨h1, h2⟩

/-! ### The answer -/
def dividedB (a b : Pl) : Bool := polyB a && (polyB b && (decide (0 < b.cs.length) && overB a b))
def dividedP (a b : Pl) : Pl := doneP (dividedB a b) (overP a b)
/-- What the answer is when the division has gone through. -/
def outQ (low : Int) : Option (List Int × List Int) → Option Pl
  | some p => if zeroL p.2 then some (tidyP low p.1) else none
  | none => none
theorem overQ_some {a b : Pl} (h : 0 < a.cs.length) : overQ a b = outQ (a.low - b.low) (divGo b.cs (a.cs.length + 1 - b.cs.length) a.cs) := by
  unfold overQ outQ
  rw [if_neg (by omega)] <;> cases divGo b.cs (a.cs.length + 1 - b.cs.length) a.cs <;> rfl
theorem over_none {a b : Pl} (h : overQ a b = none) : overB a b = false ∧ overP a b = ⟨0, []⟩ := by
  unfold overB overP
  rw [h]
  exact ⟨rfl, rfl⟩
theorem over_some {a b p : Pl} (h : overQ a b = some p) : overB a b = polyB p ∧ overP a b = doneP (polyB p) p := by
  unfold overB overP
  rw [h]
  exact ⟨rfl, rfl⟩
theorem divided_fit {w : World} {l1 l2 : Int} {x y : List Int} {a1 a2 : Option Addr} {n1 n2 : Nat} {b : Bool} {p : Pl} (_ : Ints w a1 n1 x) (_ : Ints w a2 n2 y) (_ : dividedB ⟨l1, x⟩ ⟨l2, y⟩ = b) (hp : dividedP ⟨l1, x⟩ ⟨l2, y⟩ = p) : p.cs.length ≤ 200 := by
  unfold dividedP at hp
  refine doneP_len (fun h => ?_) hp
  unfold dividedB at h
  simp only [Bool.and_eq_true] at h
  have h := h.2.2.2
  unfold overB at h
  unfold overP
  cases e : overQ ⟨l1, x⟩ ⟨l2, y⟩ with
  | none => rw [e] at h; exact absurd h (by decide)
  | some q =>
    rw [e] at h
    have h : polyB q = true := h
    show polyB (doneP (polyB q) q) = true
    rw [h]
    exact h

end Go.Proofs.Ytakfobihakbefaa

/- Finite sums; the coefficients of products: they go both ways, share sums, and go in any brackets. -/

namespace Go.Proofs.Ytakfobihakbefaa
open Go.RowKit

def sumN (f : Nat → Int) : Nat → Int
  | 0 => 0
  | n + 1 => sumN f n + f n
theorem sumN_congr {f g : Nat → Int} : ∀ {n : Nat}, (∀ i, i < n → f i = g i) → sumN f n = sumN g n
  | 0, _ => rfl
  | n + 1, h => by rw [sumN, sumN, sumN_congr (fun i hi => h i (by omega)), h n (by omega)]
theorem sumN_zero (n : Nat) : sumN (fun _ => 0) n = 0 := by
  induction n with
  | zero => rfl
  | succ n ih => rw [sumN, ih]; rfl
theorem sumN_none {f : Nat → Int} {n : Nat} (h : ∀ i, i < n → f i = 0) : sumN f n = 0 := by rw [sumN_congr h, sumN_zero]
theorem sumN_add (f g : Nat → Int) (n : Nat) : sumN (fun i => f i + g i) n = sumN f n + sumN g n := by
  induction n with
  | zero => rfl
  | succ n ih => rw [sumN, sumN, sumN, ih]; omega
theorem sumN_mul (c : Int) (f : Nat → Int) (n : Nat) : sumN (fun i => c * f i) n = c * sumN f n := by
  induction n with
  | zero => rw [sumN, sumN, Int.mul_zero]
  | succ n ih => rw [sumN, sumN, ih, Int.mul_add]
theorem sumN_swap (f : Nat → Nat → Int) (m : Nat) : ∀ n, sumN (fun i => sumN (fun j => f i j) m) n = sumN (fun j => sumN (fun i => f i j) n) m
  | 0 => by rw [sumN]; exact (sumN_zero m).symm
  | n + 1 => by
    rw [sumN, sumN_swap f m n, ← sumN_add]
    exact sumN_congr fun j _ => by rw [sumN]
theorem sumN_one {f : Nat → Int} {n k : Nat} (hk : k < n) (h : ∀ i, i < n → i ≠ k → f i = 0) : sumN f n = f k := by
  induction n with
  | zero => omega
  | succ n ih =>
    rw [sumN]
    by_cases e : k = n
    · subst e
      rw [sumN_none (fun i hi => h i (by omega) (by omega))]; omega
    · rw [ih (by omega) (fun i hi hne => h i (by omega) hne), h n (by omega) (Ne.symm e)]; omega
theorem sumN_cut {f : Nat → Int} {m : Nat} : ∀ {n : Nat}, m ≤ n → (∀ i, m ≤ i → i < n → f i = 0) → sumN f n = sumN f m
  | 0, h, _ => by rw [Nat.le_zero.1 h]
  | n + 1, h, hz => by
    by_cases e : m = n + 1
    · rw [e]
    · rw [sumN, hz n (by omega) (by omega), sumN_cut (n := n) (by omega) (fun i h1 h2 => hz i h1 (by omega))]; omega

/-- A polynomial's coefficient as a sum. -/
theorem pat_sum (p : Pl) (k : Int) : pat p k = sumN (fun l => if p.low + (l : Int) = k then p.cs.getD l 0 else 0) p.cs.length := by
  by_cases h : p.low ≤ k ∧ k < p.low + p.cs.length
  · obtain ⟨l, hl⟩ : ∃ l : Nat, k = p.low + (l : Int) := ⟨(k - p.low).toNat, by omega⟩
    subst hl
    rw [pat_at, sumN_one (k := l) (by omega) (fun i _ hne => if_neg (by omega)), if_pos rfl]
  · rw [sumN_none fun i hi => if_neg (by omega)]
    by_cases h1 : k < p.low
    · exact pat_low p h1
    · exact pat_high p (by omega)
/-- The sum of the products of coefficients whose powers add up to k. -/
def mulF (a b : Pl) (k : Int) : Int := sumN (fun m => a.cs.getD m 0 * pat b (k - (a.low + (m : Int)))) a.cs.length
theorem mulF_two (a b : Pl) (k : Int) : mulF a b k = sumN (fun m => sumN (fun l => if a.low + (m : Int) + (b.low + (l : Int)) = k then a.cs.getD m 0 * b.cs.getD l 0 else 0) b.cs.length) a.cs.length := by
  unfold mulF
  refine sumN_congr fun m _ => ?_
  rw [pat_sum, ← sumN_mul]
  refine sumN_congr fun l _ => ?_
  by_cases h : b.low + (l : Int) = k - (a.low + (m : Int))
  · rw [if_pos h, if_pos (by omega)]
  · rw [if_neg h, if_neg (by omega), Int.mul_zero]
theorem mulF_comm (a b : Pl) (k : Int) : mulF a b k = mulF b a k := by
  rw [mulF_two, mulF_two, sumN_swap]
  refine sumN_congr fun l _ => sumN_congr fun m _ => ?_
  by_cases h : a.low + (m : Int) + (b.low + (l : Int)) = k
  · rw [if_pos h, if_pos (by omega), Int.mul_comm]
  · rw [if_neg h, if_neg (by omega)]
theorem mulF_congr {a b c : Pl} (h : ∀ k, pat b k = pat c k) (k : Int) : mulF a b k = mulF a c k := by
  unfold mulF
  exact sumN_congr fun m _ => by rw [h]
theorem mulF_congr1 {a b c : Pl} (h : ∀ k, pat a k = pat b k) (k : Int) : mulF a c k = mulF b c k := by
  rw [mulF_comm, mulF_congr h, mulF_comm]
/-- Products share sums. -/
theorem mulF_sum {a b c d : Pl} {n : Int} (h : ∀ k, pat d k = pat b k + n * pat c k) (k : Int) : mulF a d k = mulF a b k + n * mulF a c k := by
  unfold mulF
  rw [← sumN_mul, ← sumN_add]
  refine sumN_congr fun m _ => ?_
  rw [h, Int.mul_add, Int.mul_left_comm]

theorem convN_sum (x y : List Int) (i : Nat) : ∀ m, convN x y i m = sumN (fun j => if j ≤ i then x.getD j 0 * y.getD (i - j) 0 else 0) m
  | 0 => rfl
  | m + 1 => by rw [convN, sumN, convN_sum x y i m]
theorem prod_pat (a b : Pl) (k : Int) : pat (prodP a b) k = mulF a b k := by
  unfold prodP
  by_cases h0 : a.cs.length = 0 ∨ b.cs.length = 0
  · rw [if_pos h0, pat_nil]
    rcases h0 with h | h
    · unfold mulF; rw [h]; rfl
    · rw [mulF_comm]; unfold mulF; rw [h]; rfl
  · rw [if_neg h0, tidy_pat]
    by_cases h1 : k < a.low + b.low
    · rw [pat_low ⟨_, _⟩ h1]
      refine (sumN_none fun m _ => ?_).symm
      rw [pat_low b (by omega), Int.mul_zero]
    · by_cases h2 : a.low + b.low + ((a.cs.length + b.cs.length - 1 : Nat) : Int) ≤ k
      · rw [pat_high ⟨_, _⟩ (by show a.low + b.low + ((convL a.cs b.cs).length : Int) ≤ k; rw [convL_len]; exact h2)]
        refine (sumN_none fun m hm => ?_).symm
        rw [pat_high b (by omega), Int.mul_zero]
      · obtain ⟨i, hi⟩ : ∃ i : Nat, k = a.low + b.low + (i : Int) := ⟨(k - (a.low + b.low)).toNat, by omega⟩
        subst hi
        have e := pat_at ⟨a.low + b.low, convL a.cs b.cs⟩ i
        rw [show pat ⟨a.low + b.low, convL a.cs b.cs⟩ (a.low + b.low + (i : Int)) = (convL a.cs b.cs).getD i 0 from e, convL_get _ _ _ (by omega), convN_sum]
        unfold mulF
        refine sumN_congr fun m _ => ?_
        by_cases hm : m ≤ i
        · have e2 := pat_at b (i - m)
          rw [if_pos hm, show a.low + b.low + (i : Int) - (a.low + (m : Int)) = b.low + ((i - m : Nat) : Int) by omega, e2]
        · rw [if_neg hm, pat_low b (by omega), Int.mul_zero]
theorem prod_comm (a b : Pl) : prodP a b = prodP b a := trim_unique (prod_trim _ _) (prod_trim _ _) fun k => by rw [prod_pat, prod_pat, mulF_comm]
/-- A polynomial times 1 is itself. -/
theorem prod_one {a : Pl} (ha : Trim a) : prodP a ⟨0, [1]⟩ = a := trim_unique (prod_trim _ _) ha fun k => by
  rw [prod_pat, mulF_comm]
  unfold mulF
  show sumN (fun m => ([1] : List Int).getD m 0 * pat a (k - (0 + (m : Int)))) 1 = _
  rw [sumN, sumN]
  simp

end Go.Proofs.Ytakfobihakbefaa

/- min and max of ints; the model's l6pSum. -/

namespace Go.Proofs.Ytakfobihakbefaa
open Go.RowKit

theorem min_int (x y : Int) (W : World) : (Builtin.min_ #[3, 3] 3 #[.int .i64 x, .int .i64 y]).run Try.prog W = .ok (.int .i64 (if x ≤ y then x else y)) W := by
  by_cases h : x ≤ y
  · rw [if_pos h]; simp [Builtin.min_, Builtin.min2, go_sem]; omega
  · rw [if_neg h]; simp [Builtin.min_, Builtin.min2, go_sem]; omega
theorem max_int (x y : Int) (W : World) : (Builtin.max_ #[3, 3] 3 #[.int .i64 x, .int .i64 y]).run Try.prog W = .ok (.int .i64 (if y ≤ x then x else y)) W := by
  by_cases h : y ≤ x
  · rw [if_pos h]; simp [Builtin.max_, Builtin.max2, go_sem]; omega
  · rw [if_neg h]; simp [Builtin.max_, Builtin.max2, go_sem]; omega

theorem boxes3Below {w W : World} {t1 t2 t3 : TypeId} {x y u v : Value} (hW : ((w.alloc (.cells #[x, y] t1)).alloc (.cells #[u, v] t2)).alloc (.cells #[.int .i64 0, .slice none 0 0] t3) = W) : Below w.heap.size w W ∧ W.heap.size = w.heap.size + 3 := by
  subst hW
  exact ⟨(((Below.refl _ w).alloc (Nat.le_refl _) _).alloc (by simp) _).alloc (by simp; omega) _, by simp⟩
theorem resRow2 {w2 : World} {r base : Nat} {v : Value} {zs : List Int} (x y : Value) (h : IntRow base w2 v zs) (hb : r + 2 < base) : IntRow r ((w2.setCell ⟨r + 2, 0, none⟩ x).setCell ⟨r + 2, 1, none⟩ y) v zs :=
  IntRow.mono (resRow (r := r + 2) x y h hb) (by omega)
theorem resBelow2 {w w2 : World} {r : Nat} (x y : Value) (h : Below r w w2) : Below r w ((w2.setCell ⟨r + 2, 0, none⟩ x).setCell ⟨r + 2, 1, none⟩ y) :=
  (h.setCell (p := ⟨r + 2, 0, none⟩) (Nat.le_add_right _ _) x).setCell (p := ⟨r + 2, 1, none⟩) (Nat.le_add_right _ _) y

end Go.Proofs.Ytakfobihakbefaa

/- The model's l6pSum whatever comes in, and PolyAdd. -/

namespace Go.Proofs.Ytakfobihakbefaa
open Go.RowKit

theorem sum_mem {a b : Pl} {m : Int} (hx : ∀ i, -4000000000000000000 ≤ a.cs.getD i 0 ∧ a.cs.getD i 0 ≤ 4000000000000000000) (hy : ∀ i, -4000000000000000000 ≤ m * b.cs.getD i 0 ∧ m * b.cs.getD i 0 ≤ 4000000000000000000) :
    ∀ z ∈ (sumP a m b).cs, -9223372036854775808 ≤ z ∧ z ≤ 9223372036854775807 := fun z hz => by
  unfold sumP at hz
  split at hz
  · obtain ⟨i, hi, rfl⟩ := List.mem_iff_getElem.1 hz
    have := hx i
    rw [List.getD_eq_getElem?_getD, List.getElem?_eq_getElem hi] at this
    have : -4000000000000000000 ≤ a.cs[i] ∧ a.cs[i] ≤ 4000000000000000000 := this
    omega
  · rcases tidy_mem hz with rfl | hz
    · omega
    · unfold listP at hz
      obtain ⟨i, _, rfl⟩ := List.mem_map.1 hz
      have h1 : -4000000000000000000 ≤ pat a (sumLow a b + (i : Int)) ∧ pat a (sumLow a b + (i : Int)) ≤ 4000000000000000000 := by
        unfold pat
        split
        · exact hx _
        · omega
      have h2 : -4000000000000000000 ≤ m * pat b (sumLow a b + (i : Int)) ∧ m * pat b (sumLow a b + (i : Int)) ≤ 4000000000000000000 := by
        unfold pat
        split
        · exact hy _
        · rw [Int.mul_zero]; omega
      unfold sumF
      omega
theorem sum_len {a b : Pl} {m : Int} (h1 : -100000 ≤ a.low ∧ a.low ≤ 100000) (h2 : -100000 ≤ b.low ∧ b.low ≤ 100000) (hn1 : a.cs.length ≤ 100000) (hn2 : b.cs.length ≤ 100000) : (sumP a m b).cs.length ≤ 300000 := by
  unfold sumP
  split
  · omega
  · refine Nat.le_trans (tidy_len _ _) ?_
    rw [listP_len]
    unfold sumHigh sumLow
    repeat' split
    all_goals omega

def addPB (a b : Pl) : Bool := polyB a && (polyB b && polyB (sumP a 1 b))
def addP (a b : Pl) : Pl := doneP (addPB a b) (sumP a 1 b)

end Go.Proofs.Ytakfobihakbefaa

/- A drawn region whose head makes memory but has fixed values, and whose tail comes in one order only. -/

namespace Go.Proofs.Ytakfobihakbefaa
open Go.RowKit

section
variable {P : Program} {ops : Array Oper} {md : Region.Mode} {C : World → Prop}

/-- The head in whatever order, up to the place where L holds. -/
def headQ (P : Program) (md : Region.Mode) (ops : Array Oper) (C : World → Prop) (n : Nat) (L : Array Bool → Act → Prop) : Nat → Array Bool → Act → Prop
  | 0, listed, a => L listed a
  | f + 1, listed, a => Region.ready md ops listed ≠ [] ∧ ∀ i ∈ Region.ready md ops listed, i < n ∧ qOp P ops C i (headQ P md ops C n L f (listed.setIfInBounds i true)) a

theorem wpAny_headQ {n g : Nat} {L : Array Bool → Act → Prop} {Q' : Exit → Act → World → Prop} (hL : ∀ listed a w, C w → L listed a → wpAny P md ops Q' g listed a w) :
    ∀ (f : Nat) (listed : Array Bool) (a : Act) (w : World), C w → headQ P md ops C n L f listed a → wpAny P md ops Q' (f + g) listed a w
  | 0, _, _, _, hw, h => by rw [Nat.zero_add]; exact hL _ _ _ hw h
  | f + 1, listed, a, w, hw, h => by
    rw [Nat.succ_add]
    exact ⟨fun h0 => absurd h0 h.1, fun i hi => wpOp_of_qOp hw (fun a' w' hw' h' => wpAny_headQ hL f _ a' w' hw' h') (h.2 i hi).2⟩

theorem headQ_first {n i : Nat} {oi : Oper} {v : Value} {L : Array Bool → Act → Prop} (hi : ops[i]? = some oi) (hsel : ∀ (j : Nat) (o : Oper) cs b, ops[j]? = some o → o.op ≠ .select cs b)
    (hs : Region.sinkB md ops n = true) (hc : Region.chainB md ops n = true) (hn : n < ops.size) (hin : i < n) (hdone : ∀ listed a, L listed a → ∀ j ∈ Region.ready md ops listed, n ≤ j) :
    ∀ (f : Nat) (listed : Array Bool) (a : Act), HeadInv md ops n listed →
      (∀ j oj, ops[j]? = some oj → j ≠ i → listed.getD j true = false → (∀ e ∈ oj.after, Region.binds md e = true → e.on ≠ i) → oi.apart ops oj = true) →
      i ∈ Region.ready md ops listed → YieldsIn P ops C oi v a →
      headQ P md ops C n L f (listed.setIfInBounds i true) (a.put oi.dst v) → headQ P md ops C n L (f + 1) listed a := by
  intro f
  induction f with
  | zero =>
    intro listed a inv _ hr hy H
    refine ⟨fun h => (by rw [h] at hr; cases hr), fun j hj => ?_⟩
    have hjn : j < n := Nat.lt_of_not_le fun h => tail_waits hs hc hn inv _ i rfl hin (mem_ready.1 hr).1 j h hj
    refine ⟨hjn, ?_⟩
    by_cases hji : j = i
    · subst hji; exact hy.qOp hi H
    · exact absurd (hdone _ _ H j (ready_mono hj hji)) (by omega)
  | succ f ih =>
    intro listed a inv hfree hr hy H
    have hun := (mem_ready.1 hr).1
    refine ⟨fun h => (by rw [h] at hr; cases hr), fun j hj => ?_⟩
    have hjn : j < n := Nat.lt_of_not_le fun h => tail_waits hs hc hn inv _ i rfl hin hun j h hj
    refine ⟨hjn, ?_⟩
    by_cases hji : j = i
    · subst hji; exact hy.qOp hi H
    · obtain ⟨hjun, oj, hoj, hall⟩ := mem_ready.1 hj
      have hnot : ∀ e ∈ oj.after, Region.binds md e = true → e.on ≠ i := fun e he hb heq => by
        have h1 := hall e he hb
        rw [heq, getD_both hun] at h1
        cases h1
      have h2 := qOp_put hoj (hfree j oj hoj hji hjun hnot) (fun cs b => hsel i oi cs b hi) (fun cs b => hsel j oj cs b hoj) hy (H.2 j (ready_mono hj hji)).2
      refine qOp_mono (fun a' h3 => ih _ a' (inv.set hj hjn) (fun k ok hk hki hu hno => hfree k ok hk hki ?_ hno) (ready_mono hr (Ne.symm hji)) h3.1 ?_) h2
      · by_cases hjk : j = k
        · subst hjk; exact hjun
        · rw [getD_set_ne true hjk] at hu; exact hu
      · rw [Array.setIfInBounds_comm _ _ hji]
        exact h3.2

theorem headQ_lex {n g : Nat} {Lq : Act → Prop} (hsel : Region.noSelect ops = true) (hs : Region.sinkB md ops n = true) (hc : Region.chainB md ops n = true) (hn : n < ops.size) :
    ∀ (l : List Oper) (k : Nat) (listed : Array Bool) (a : Act), (∀ j, j < l.length → l[j]? = ops[k + j]?) → k + l.length = n → HeadInv md ops n listed →
    Region.lexHead md ops g l.length k listed = true → wpQuiet P ops C Lq l a → headQ P md ops C n (fun listed' a' => Region.seqB md ops g n listed' = true ∧ Lq a') l.length listed a
  | [], k, listed, a, _, hk, _, hB, h => by
    obtain rfl : k = n := by simpa using hk
    exact ⟨by simpa [Region.lexHead] using hB, h⟩
  | o :: l, k, listed, a, hl, hk, inv, hB, h => by
    have h0 : ops[k]? = some o := by simpa using (hl 0 (by simp)).symm
    simp only [List.length_cons, Region.lexHead, Bool.and_eq_true] at hB
    have hkn : k < n := by simp only [List.length_cons] at hk; omega
    have hr' : k ∈ Region.ready md ops listed := by simpa using hB.1.1
    have hst : qOp P ops C k (wpQuiet P ops C Lq l) a := by unfold qOp; simp only [h0]; exact h
    obtain ⟨v, hy, hK⟩ := yieldsIn_of_qOp h0 hst
    exact headQ_first h0 (Region.noSelect_spec hsel) hs hc hn hkn (fun listed' a' hL => seqB_ready hL.1) l.length listed a inv (Region.free_spec h0 hB.1.2) hr' hy
      (headQ_lex hsel hs hc hn l (k + 1) _ _ (fun j hj => by have := hl (j + 1) (by simp; omega); simpa [Nat.add_assoc, Nat.add_comm 1 j] using this) (by simp only [List.length_cons] at hk; omega) (inv.set hr' hkn) hB.2 hK)

/-- The head walked once, in every world of the class; then the tail. -/
theorem wp_region_quiet_tail {id : Nat} {Q : Exit → Act → World → Prop} {a : Act} {w : World} {l : List Oper} (n : Nat) (hm : P.follows .mixedOrders = true) (hB : Region.lexTailB .any l.toArray n = true) (hC : C { w with drawn := w.drawn + 1 })
    (h : wpQuiet P l.toArray C (fun a' => ∀ w', C w' → wpList P l.toArray Q (l.drop n) a' w') (l.take n) a) : (Code.region id l.toArray true).wp P Q a w := by
  simp only [Region.lexTailB, Bool.and_eq_true, decide_eq_true_eq] at hB
  obtain ⟨⟨⟨⟨hsel, hn⟩, hs⟩, hc⟩, hlex⟩ := hB
  have hn' : n < l.length := by simpa using hn
  have htl : (l.take n).length = n := by simp; omega
  have hdl : (l.drop n).length = l.toArray.size - n := by simp
  have inv0 : HeadInv .any l.toArray n (Array.replicate l.toArray.size false) :=
    ⟨by simp, fun j oj _ hl => (by rw [getD_replicate_false] at hl; cases hl), fun t _ ht => getD_in (by simpa using ht) (getD_replicate_false _ _)⟩
  have H := headQ_lex (md := .any) (g := l.toArray.size - n) hsel hs hc hn (l.take n) 0 _ a (fun j hj => by
    have hj' : j < n := by rw [htl] at hj; exact hj
    simp [hj']) (by simpa using htl) inv0 (by rw [htl]; exact hlex) h
  refine wp_region_any hm ?_
  have := wpAny_headQ (Q' := Q) (g := l.toArray.size - n) (fun listed a' w' hw' hL => by
    have := wpAny_of_seq (md := .any) (Q' := Q) (l.drop n) n listed a' w' (fun j => by simp [List.getElem?_drop]) (by rw [hdl]; exact hL.1) (hL.2 w' hw')
    rwa [hdl] at this) _ _ _ _ hC H
  rw [htl, show n + (l.toArray.size - n) = l.toArray.size by omega] at this
  exact this
/-- At the worlds behind w. -/
theorem wp_region_below_tail {id : Nat} {Q : Exit → Act → World → Prop} {a : Act} {w : World} {l : List Oper} (n : Nat) (hm : P.follows .mixedOrders = true) (hB : Region.lexTailB .any l.toArray n = true)
    (h : wpQuiet P l.toArray (fun w' => ∃ p : BelowBy w, w' = p.world) (fun a' => ∀ w', (∃ p : BelowBy w, w' = p.world) → wpList P l.toArray Q (l.drop n) a' w') (l.take n) a) : (Code.region id l.toArray true).wp P Q a w :=
  wp_region_quiet_tail n hm hB ⟨⟨w.drew, (Below.refl _ _).drew⟩, rfl⟩ h
end

end Go.Proofs.Ytakfobihakbefaa

/- The program's add, and its PolyAdd. -/

namespace Go.Proofs.Ytakfobihakbefaa
open Go.RowKit

set_option maxRecDepth 100000 in
set_option maxHeartbeats 4000000 in
theorem add_any (base g N capN : Nat) (f : Int → Int) (la lb : Int) (y : List Int) (a2 : Option Addr) (c2 n2 : Nat) (w : World)
    (hr : w.ownsRow base 3 1 (.slice (some ⟨g, 0, none⟩) N capN) N (intsV (listP f la N))) (h2 : Ints w a2 n2 y)
    (hla : -100000 ≤ la ∧ la ≤ 100000) (hlb : -100000 ≤ lb ∧ lb ≤ 100000) (hN : N ≤ 300000) (hn2 : n2 ≤ 100000) (hin : n2 = 0 ∨ (la ≤ lb ∧ lb + n2 ≤ la + N)) (hne : n2 = 0 ∨ ∀ x, a2 = some x → x.block ≠ g)
    (hf : ∀ z, -4000000000000000000 ≤ f z ∧ f z ≤ 4000000000000000000) (hy : ∀ i, -4000000000000000000 ≤ y.getD i 0 ∧ y.getD i 0 ≤ 4000000000000000000) :
    Calls Try.prog 106 #[plV la (.slice (some ⟨g, 0, none⟩) N capN), plV lb (.slice a2 n2 c2)] w fun e w' => e = .returned (.tuple #[]) ∧ w'.ownsRow base 3 1 (.slice (some ⟨g, 0, none⟩) N capN) N (intsV (listP (fun z => f z + pat ⟨lb, y⟩ z) la N)) ∧ w.grownBy w' (some g) := by
  obtain ⟨W, hW⟩ : ∃ W, (w.alloc (.cells #[.int .i64 la, .slice (some ⟨g, 0, none⟩) N capN] 25)).alloc (.cells #[.int .i64 lb, .slice a2 n2 c2] 25) = W := ⟨_, rfl⟩
  have hsz : W.heap.size = w.heap.size + 2 := by rw [← hW]; simp
  have hbW : Below w.heap.size w W := by rw [← hW]; exact ((Below.refl _ w).alloc (Nat.le_refl _) _).alloc (by simp) _
  have hgl : g < w.heap.size := own_lt hr g rfl
  have HC : Hid (∀ w1, W.grownBy w1 (some g) → w1.cell? ⟨w.heap.size, 0, none⟩ = some (.int .i64 la) ∧ w1.cell? ⟨w.heap.size, 1, none⟩ = some (.slice (some ⟨g, 0, none⟩) N capN) ∧ w1.cell? ⟨w.heap.size + 1, 0, none⟩ = some (.int .i64 lb) ∧ w1.cell? ⟨w.heap.size + 1, 1, none⟩ = some (.slice a2 n2 c2)) := Lib.hid fun w1 hg => by
    have e0 := hg.block w.heap.size (by omega) (by simp; omega)
    have e1 := hg.block (w.heap.size + 1) (by omega) (by simp; omega)
    have d0 : W.heap[w.heap.size]? = some (.cells #[.int .i64 la, .slice (some ⟨g, 0, none⟩) N capN] 25 (0, 0)) := by
      rw [← hW, Below.heap_alloc _ _ _ (by simp)]
      exact World.alloc_heap_new w _
    have d1 : W.heap[w.heap.size + 1]? = some (.cells #[.int .i64 lb, .slice a2 n2 c2] 25 (0, 0)) := by
      rw [← hW]
      have h := World.alloc_heap_new (w.alloc (.cells #[.int .i64 la, .slice (some ⟨g, 0, none⟩) N capN] 25)) (.cells #[.int .i64 lb, .slice a2 n2 c2] 25)
      rwa [World.size_alloc] at h
    rw [d0] at e0
    rw [d1] at e1
    refine ⟨?_, ?_, ?_, ?_⟩ <;> simp [World.cell?, e0, e1]
  have hC := HC.out W (World.grownBy.refl _ _)
  rw [← hW] at hC
  obtain ⟨p0, p1, q0, q1⟩ := hC
  have HGW : Hid (w.grownBy W (some g)) := Lib.hid ⟨hbW.os, hbW.tape, hbW.output, hbW.size, fun i hi _ => hbW.block i hi⟩
  have HS2 : Hid (∀ w1, W.grownBy w1 (some g) → ∀ k, k < n2 → ∀ x, a2 = some x → ∀ z, y.getD k 0 = z → w1.cell? (x.add k) = some (.int .i64 z)) := Lib.hid fun w1 hg k hk x hx z hz => by
    obtain ⟨x', e, hb, hc⟩ := h2.at_ (by omega)
    obtain rfl : x = x' := by rw [hx] at e; simpa using e
    have hl := h2.len
    have hne' : (x.add k).block ≠ g := by rw [addr_add_block]; exact (hne.resolve_left (by omega)) x hx
    have hbk := hbW.cell (p := x.add k) (by rw [addr_add_block]; exact hb)
    have hbl : (x.add k).block < W.heap.size := by rw [addr_add_block]; omega
    have e1 := hg.block (x.add k).block hbl (by simp; exact hne')
    have e2 : w1.cell? (x.add k) = W.cell? (x.add k) := by unfold World.cell?; rw [e1]
    rw [e2, hbk, hc k (by omega), ← hz, List.getD_eq_getElem?_getD, List.getElem?_eq_getElem (by omega)]
    rfl
  have HAT : Hid (0 < n2 → ∃ x, a2 = some x) := Lib.hid fun h => by obtain ⟨x, e, _⟩ := h2.at_ h; exact ⟨x, e⟩
  have HR0 : Hid (W.ownsRow base 3 1 (.slice (some ⟨g, 0, none⟩) N capN) N (intsV (listP (fun z => f z + upto (pat ⟨lb, y⟩) (lb + ((0 : Nat) : Int)) z) la N))) := Lib.hid (by
    have e : listP (fun z => f z + upto (pat ⟨lb, y⟩) (lb + ((0 : Nat) : Int)) z) la N = listP f la N := listP_congr fun z _ _ => by
      rw [show lb + ((0 : Nat) : Int) = lb by omega]
      show f z + upto (pat ⟨lb, y⟩) (⟨lb, y⟩ : Pl).low z = f z
      rw [upto_low, Int.add_zero]
    rw [e]
    exact hr.kept ⟨hbW.os, hbW.tape, hbW.output, hbW.size, fun j hj _ => hbW.block j hj⟩ (row := none) (.inr (by simp [Value.ownBlock])))
  have HN2 := Lib.hid h2.len
  have HF := Lib.hid hf
  have HY := Lib.hid hy
  have HW := Lib.hid hW
  have HIN := Lib.hid hin
  clear hW hbW h2 hf hy hsz hne hr hin hgl
  go_enter Try.func106, Try.ntmps106
  go_wp2_with fail
  rw [HW.out]
  clear p0 p1 q0 q1
  go_loopw [4, 5, 9] (fun _ _ i wr => ∃ k : Nat, k ≤ n2 ∧ i = .int .i64 (k : Int) ∧ Hid (wr.ownsRow base 3 1 (.slice (some ⟨g, 0, none⟩) N capN) N (intsV (listP (fun z => f z + upto (pat ⟨lb, y⟩) (lb + (k : Int)) z) la N))) ∧ Hid (W.grownBy wr (some g))) (fun _ _ i _ => n2 - (intOf i).toNat)
  case atStart => exact ⟨0, Nat.zero_le _, rfl, HR0, Lib.hid (World.grownBy.refl _ _)⟩
  case round =>
    obtain ⟨k, hk, rfl, HR, HG⟩ := hrel
    obtain ⟨p0, p1, q0, q1⟩ := HC.out wr HG.out
    by_cases hlt : k < n2
    · obtain ⟨x, rfl⟩ := HAT.out (by omega)
      obtain ⟨z, hz⟩ : ∃ z, y.getD k 0 = z := ⟨_, rfl⟩
      have hcz := HS2.out wr HG.out k hlt x rfl z hz
      have hin := HIN.out.resolve_left (by omega)
      obtain ⟨hin1, hin2⟩ := hin
      obtain ⟨u, hu⟩ : ∃ u, f (lb + (k : Int)) = u := ⟨_, rfl⟩
      have hub := HF.out (lb + (k : Int))
      rw [hu] at hub
      have hzb := HY.out k
      rw [hz] at hzb
      obtain ⟨hub1, hub2⟩ := hub
      obtain ⟨hzb1, hzb2⟩ := hzb
      obtain ⟨d, hd⟩ : ∃ d : Nat, lb - la = (d : Int) := ⟨(lb - la).toNat, by omega⟩
      obtain ⟨j, hj⟩ : ∃ j : Nat, d + k = j := ⟨_, rfl⟩
      have hjN : j < N := by omega
      have hjNi : (j : Int) < (N : Int) := by omega
      have hj0 : (0 : Int) ≤ (j : Int) := by omega
      have hki : (k : Int) < (n2 : Int) := by omega
      have hk0 : (0 : Int) ≤ (k : Int) := by omega
      have hw1 : IntKind.i64.wrap (lb - la) = (d : Int) := by rw [IntWalk.i64_in _ (by omega)]; exact hd
      have hw2 : IntKind.i64.wrap ((d : Int) + (k : Int)) = (j : Int) := by rw [IntWalk.i64_in _ (by omega)]; omega
      have hw4 : IntKind.i64.wrap (u + z) = u + z := IntWalk.i64_in _ (by omega)
      have hlj : la + (j : Int) = lb + (k : Int) := by omega
      have hck : wr.cell? ⟨g, j, none⟩ = some (.int .i64 u) := by
        rw [HR.out.cellAt _ (by omega), listP_cell hjN, hlj, upto_here, hu, Int.add_zero]
      have hfk := HR.out.frozenAt j
      have HST : Hid ((intsV (listP (fun z => f z + upto (pat ⟨lb, y⟩) (lb + (k : Int)) z) la N)).set j (.int .i64 (u + z)) = intsV (listP (fun z => f z + upto (pat ⟨lb, y⟩) (lb + ((k + 1 : Nat) : Int)) z) la N)) := Lib.hid (listP_set (fun p hp => by
          rw [show lb + ((k + 1 : Nat) : Int) = lb + (k : Int) + 1 by omega, upto_next (by omega)]) (by
          rw [show lb + ((k + 1 : Nat) : Int) = lb + (k : Int) + 1 by omega, hlj, upto_at, hu]
          rw [show pat ⟨lb, y⟩ (lb + (k : Int)) = z from (pat_at ⟨lb, y⟩ k).trans hz]))
      clear hz hd hj hlj hu
      go_wp2
      go_roundw
      case rel =>
        have h1 := HR.out.stored j (.int .i64 (u + z))
        refine ⟨k + 1, by omega, by go_num, Lib.hid ?_, Lib.hid (HG.out.trans h1.2)⟩
        rw [← HST.out]
        exact h1.1
      case measure => simp [intOf]; omega
    · obtain rfl : k = n2 := by omega
      have e : listP (fun z => f z + upto (pat ⟨lb, y⟩) (lb + (k : Int)) z) la N = listP (fun z => f z + pat ⟨lb, y⟩ z) la N := listP_congr fun z _ _ => by
        have h1 := upto_high ⟨lb, y⟩ z
        rw [show (⟨lb, y⟩ : Pl).low + ((⟨lb, y⟩ : Pl).cs.length : Int) = lb + (k : Int) by show lb + (y.length : Int) = _; rw [HN2.out]] at h1
        rw [h1]
      have hr := HR.out
      rw [e] at hr
      have HRR := Lib.hid hr
      clear hr e HR
      go_wp2
      go_end0
      exact ⟨rfl, HRR.out, HGW.out.trans HG.out⟩

end Go.Proofs.Ytakfobihakbefaa

/- The program's PolyAdd. -/

namespace Go.Proofs.Ytakfobihakbefaa
open Go.RowKit

theorem listP_tidy {f : Int → Int} {low : Int} {n : Nat} {q : Pl} (hq : Trim q) (h1 : ∀ k, k < low → f k = 0) (h2 : ∀ k, low + n ≤ k → f k = 0) (h : ∀ k, pat q k = f k) : tidyP low (listP f low n) = q :=
  trim_unique (tidy_trim _ _) hq fun k => by rw [tidy_pat, listP_pat h1 h2, h]
theorem pat_bound {p : Pl} {M : Int} (h0 : 0 ≤ M) (h : ∀ i, -M ≤ p.cs.getD i 0 ∧ p.cs.getD i 0 ≤ M) (k : Int) : -M ≤ pat p k ∧ pat p k ≤ M := by
  unfold pat
  split
  · exact h _
  · omega

end Go.Proofs.Ytakfobihakbefaa

/- How PolyAdd and the model's answer, for the law. -/

namespace Go.Proofs.Ytakfobihakbefaa
open Go.RowKit

theorem addP_fit {w : World} {l1 l2 : Int} {x y : List Int} {a1 a2 : Option Addr} {n1 n2 : Nat} {b : Bool} {p : Pl} (_ : Ints w a1 n1 x) (_ : Ints w a2 n2 y) (_ : addPB ⟨l1, x⟩ ⟨l2, y⟩ = b) (hp : addP ⟨l1, x⟩ ⟨l2, y⟩ = p) : p.cs.length ≤ 200 := by
  unfold addP at hp
  refine doneP_len (fun h => ?_) hp
  unfold addPB at h
  simp only [Bool.and_eq_true] at h
  exact h.2.2
end Go.Proofs.Ytakfobihakbefaa

/- The program's totals: add and number. -/

namespace Go.Proofs.Ytakfobihakbefaa
open Go.RowKit

theorem tdiv_parts (p : Int) : p.tdiv 1000000000 * 1000000000 + p.tmod 1000000000 = p ∧ -1000000000 < p.tmod 1000000000 ∧ p.tmod 1000000000 < 1000000000 := by
  have h1 := Int.mul_tdiv_add_tmod p 1000000000
  have h2 := Int.tmod_lt_of_pos p (show (0 : Int) < 1000000000 by omega)
  have h3 := Int.lt_tmod_of_pos p (show (0 : Int) < 1000000000 by omega)
  omega
theorem num_no {c r : Int} (h : inR (-1) 1 (c + r.tdiv 1000000000) = false) : coefIn (c * 1000000000 + r) = false := by
  have h1 := tdiv_parts r
  unfold inR at h
  simp only [Bool.and_eq_false_iff, decide_eq_false_iff_not] at h
  exact coefIn_no (by omega)
theorem num_yes {c r : Int} : (c + r.tdiv 1000000000) * 1000000000 + r.tmod 1000000000 = c * 1000000000 + r := by
  have h1 := tdiv_parts r
  omega

set_option maxHeartbeats 2000000 in
theorem number_any (c r : Int) (b : Bool) (w : World) (hc : -4000000000000000 ≤ c ∧ c ≤ 4000000000000000) (hr : -4000000000000000 ≤ r ∧ r ≤ 4000000000000000) (hb : inR (-1) 1 (c + r.tdiv 1000000000) = b) :
    Calls Try.prog 100 #[.agg #[.int .i64 c, .int .i64 r]] w fun e w' => e = .returned (.tuple #[.int .i64 (if b then c * 1000000000 + r else 0), .bool b]) ∧ Below w.heap.size w w' := by
  obtain ⟨q, hq⟩ : ∃ q, r.tdiv 1000000000 = q := ⟨_, rfl⟩
  obtain ⟨m, hm⟩ : ∃ m, r.tmod 1000000000 = m := ⟨_, rfl⟩
  have hp := tdiv_parts r
  rw [hq, hm] at hp
  obtain ⟨hp1, hp2, hp3⟩ := hp
  rw [hq] at hb
  have hw1 : IntKind.i64.wrap q = q := IntWalk.i64_in _ (by omega)
  have hw2 : IntKind.i64.wrap (c + q) = c + q := IntWalk.i64_in _ (by omega)
  have hbW : Below w.heap.size w (w.alloc (.cells #[.int .i64 c, .int .i64 r] 97)) := (Below.refl _ w).alloc (Nat.le_refl _) _
  have HBW := Lib.hid hbW
  have HB := Lib.hid hb
  clear hbW hb
  cases b with
  | false =>
    go_enter Try.func100, Try.ntmps100
    go_wp2_with fail
    refine (within_any (c + q) 1 false _ (by omega) (by omega) HB.out).mono ?_
    rintro e w1 ⟨rfl, rfl⟩
    go_wp2
    go_ret2
    exact ⟨rfl, HBW.out⟩
  | true =>
    have hx : -1 ≤ c + q ∧ c + q ≤ 1 := by have := HB.out; unfold inR at this; simpa using this
    obtain ⟨hx1, hx2⟩ := hx
    have hw3 : IntKind.i64.wrap ((c + q) * 1000000000) = (c + q) * 1000000000 := IntWalk.i64_in _ (by omega)
    have hw4 : IntKind.i64.wrap ((c + q) * 1000000000 + m) = (c + q) * 1000000000 + m := IntWalk.i64_in _ (by omega)
    have hs : (c + q) * 1000000000 + m = c * 1000000000 + r := by omega
    have HS := Lib.hid hs
    have HP := Lib.hid hp1
    clear hs hp1
    go_enter Try.func100, Try.ntmps100
    go_wp2_with fail
    refine (within_any (c + q) 1 true _ (by omega) (by omega) HB.out).mono ?_
    rintro e w1 ⟨rfl, rfl⟩
    go_wp2
    go_ret2
    exact ⟨by rw [HS.out]; rfl, HBW.out⟩

end Go.Proofs.Ytakfobihakbefaa

/- The model's l6pProduct. -/

namespace Go.Proofs.Ytakfobihakbefaa
open Go.RowKit

theorem conv_bound {x y : List Int} (hx : ∀ i, -1000000000 ≤ x.getD i 0 ∧ x.getD i 0 ≤ 1000000000) (hy : ∀ i, -1000000000 ≤ y.getD i 0 ∧ y.getD i 0 ≤ 1000000000) (i j : Nat) : -1000000000000000000 ≤ x.getD i 0 * y.getD j 0 ∧ x.getD i 0 * y.getD j 0 ≤ 1000000000000000000 := by
  obtain ⟨a1, a2⟩ := hx i
  obtain ⟨b1, b2⟩ := hy j
  generalize x.getD i 0 = a at a1 a2
  generalize y.getD j 0 = b at b1 b2
  have e1 := Int.mul_nonneg (show 0 ≤ 1000000000 - a by omega) (show 0 ≤ 1000000000 + b by omega)
  have e2 := Int.mul_nonneg (show 0 ≤ 1000000000 + a by omega) (show 0 ≤ 1000000000 - b by omega)
  have e3 := Int.mul_nonneg (show 0 ≤ 1000000000 - a by omega) (show 0 ≤ 1000000000 - b by omega)
  have e4 := Int.mul_nonneg (show 0 ≤ 1000000000 + a by omega) (show 0 ≤ 1000000000 + b by omega)
  rw [Int.sub_mul, Int.mul_add, Int.mul_add] at e1
  rw [Int.add_mul, Int.mul_sub, Int.mul_sub] at e2
  rw [Int.sub_mul, Int.mul_sub, Int.mul_sub] at e3
  rw [Int.add_mul, Int.mul_add, Int.mul_add] at e4
  omega
theorem tdiv_bound {p : Int} (h1 : -1000000000000000000 ≤ p) (h2 : p ≤ 1000000000000000000) : -1000000000 ≤ p.tdiv 1000000000 ∧ p.tdiv 1000000000 ≤ 1000000000 := by
  have := tdiv_parts p
  omega
/-- What the model's sum is held at. -/
theorem held_high {h l c : Int} (hs : h * 1000000000 + l = c) (hl : -1000000000 < l ∧ l < 1000000000) : (inR (-2) 2 h = true → Heldc (h * 1000000000 + l) c) ∧ (inR (-2) 2 h = false → Heldc (2 * 1000000000 + 0) c) := by
  refine ⟨fun _ => .inl hs, fun e => .inr ⟨by decide, ?_⟩⟩
  unfold inR at e
  simp only [Bool.and_eq_false_iff, decide_eq_false_iff_not] at e
  exact coefIn_no (by omega)
theorem convN_top {x y : List Int} {i m : Nat} (h : m = i + 1 ∨ m = x.length) (h1 : m ≤ i + 1) (h2 : m ≤ x.length) : convN x y i m = convN x y i x.length := by
  rcases h with rfl | rfl
  · have e := convN_stop x y i (x.length - (i + 1))
    rw [show i + 1 + (x.length - (i + 1)) = x.length by omega] at e
    exact e.symm
  · rfl
theorem held_set {os : List Int} {N k : Nat} (hl : os.length = k) (hk : k < N) (o : Int) : (intsV (os ++ List.replicate (N - k) 0)).set k (.int .i64 o) = intsV ((os ++ [o]) ++ List.replicate (N - (k + 1)) 0) := by
  unfold intsV
  rw [List.map_append, List.set_append_right _ _ (by rw [List.length_map, hl]; exact Nat.le_refl _), List.length_map, hl, Nat.sub_self, show N - k = (N - (k + 1)) + 1 by omega, List.replicate_succ, List.map_cons, List.set_cons_zero, List.map_append, List.map_append, List.append_assoc]
  rfl

theorem held_next {os : List Int} {k : Nat} {f : Nat → Int} {o : Int} (h : os.length = k ∧ (∀ j, j < k → Heldc (os.getD j 0) (f j)) ∧ ∀ z ∈ os, -4000000000000000000 ≤ z ∧ z ≤ 4000000000000000000) (ho : Heldc o (f k)) (hb : -4000000000000000000 ≤ o ∧ o ≤ 4000000000000000000) :
    (os ++ [o]).length = k + 1 ∧ (∀ j, j < k + 1 → Heldc ((os ++ [o]).getD j 0) (f j)) ∧ ∀ z ∈ os ++ [o], -4000000000000000000 ≤ z ∧ z ≤ 4000000000000000000 := by
  obtain ⟨h1, h2, h3⟩ := h
  refine ⟨by simp [h1], fun j hj => ?_, fun z hz => ?_⟩
  · by_cases e : j = k
    · subst e
      rw [List.getD_eq_getElem?_getD, List.getElem?_append_right (by omega), h1, Nat.sub_self]
      exact ho
    · rw [List.getD_eq_getElem?_getD, List.getElem?_append_left (by omega), ← List.getD_eq_getElem?_getD]
      exact h2 j (by omega)
  · rcases List.mem_append.1 hz with h | h
    · exact h3 z h
    · obtain rfl := List.mem_singleton.1 h
      exact hb

end Go.Proofs.Ytakfobihakbefaa

/- The model's PolyTimes. -/

namespace Go.Proofs.Ytakfobihakbefaa
open Go.RowKit

def timesPB (a b : Pl) : Bool := polyB a && (polyB b && polyB (prodP a b))
def timesP (a b : Pl) : Pl := doneP (timesPB a b) (prodP a b)

end Go.Proofs.Ytakfobihakbefaa

/- The program's total.add; the coefficients of a product, as the program's loops come to them. -/

namespace Go.Proofs.Ytakfobihakbefaa
open Go.RowKit

theorem infoTotal : (Try.prog.info? 97).map (fun i => (i.zero, i.size, i.bytes)) = some (some (.agg #[.int .i64 0, .int .i64 0]), 2, 16) := by kernel_rfl

set_option maxRecDepth 100000 in
set_option maxHeartbeats 2000000 in
theorem totAdd_any (g o : Nat) (c r p q m : Int) (w : World) (h0 : w.cell? ⟨g, o, none⟩ = some (.int .i64 c)) (h1 : w.cell? ⟨g, o + 1, none⟩ = some (.int .i64 r)) (f0 : w.frozen? ⟨g, o, none⟩ = false) (f1 : w.frozen? ⟨g, o + 1, none⟩ = false)
    (hq : p.tdiv 1000000000 = q) (hm : p.tmod 1000000000 = m) (hcq : -9000000000000000000 ≤ c + q ∧ c + q ≤ 9000000000000000000) (hrm : -9000000000000000000 ≤ r + m ∧ r + m ≤ 9000000000000000000) (hqb : -9000000000000000000 ≤ q ∧ q ≤ 9000000000000000000) :
    Calls Try.prog 99 #[.pointer (some ⟨g, o, none⟩), .int .i64 p] w fun e w' => e = .returned (.tuple #[]) ∧ w' = (w.setCell ⟨g, o, none⟩ (.int .i64 (c + q))).setCell ⟨g, o + 1, none⟩ (.int .i64 (r + m)) := by
  have hw0 : IntKind.i64.wrap q = q := IntWalk.i64_in _ (by omega)
  have hw1 : IntKind.i64.wrap (c + q) = c + q := IntWalk.i64_in _ (by omega)
  have hw2 : IntKind.i64.wrap (r + m) = r + m := IntWalk.i64_in _ (by omega)
  have hx : (w.setCell ⟨g, o, none⟩ (.int .i64 (c + q))).cell? ⟨g, o + 1, none⟩ = some (.int .i64 r) := by rw [World.cell?_setCell_other]; exact h1; simp
  go_enter Try.func99, Try.ntmps99
  go_wp2
  go_end0
  exact ⟨rfl, rfl⟩

/-- What stands at place j when the first i coefficients have been taken with all others, and the next one with the first k. -/
def partN (x y : List Int) (i k j : Nat) : Int := convN x y j i + (if i ≤ j ∧ j - i < k then x.getD i 0 * y.getD (j - i) 0 else 0)
theorem part_zero (x y : List Int) (i j : Nat) : partN x y i 0 j = convN x y j i := by
  unfold partN
  rw [if_neg (by omega), Int.add_zero]
theorem part_all (x y : List Int) (i j : Nat) : partN x y i y.length j = convN x y j (i + 1) := by
  unfold partN
  rw [convN]
  by_cases h : i ≤ j
  · rw [if_pos h]
    by_cases h2 : j - i < y.length
    · rw [if_pos ⟨h, h2⟩]
    · rw [if_neg (fun e => h2 e.2), getD_far (l := y) (by omega), Int.mul_zero]
  · rw [if_neg h, if_neg (fun e => h e.1)]
theorem part_next {x y : List Int} {i k j : Nat} (h : j ≠ i + k) : partN x y i (k + 1) j = partN x y i k j := by
  unfold partN
  by_cases h1 : i ≤ j ∧ j - i < k
  · rw [if_pos h1, if_pos (by omega)]
  · rw [if_neg h1, if_neg (by omega)]
theorem part_here (x y : List Int) (i k : Nat) : partN x y i (k + 1) (i + k) = partN x y i k (i + k) + x.getD i 0 * y.getD k 0 := by
  unfold partN
  rw [if_pos (by omega), if_neg (by omega), Int.add_zero, show i + k - i = k by omega]
theorem conv_nil (x : List Int) (i : Nat) : ∀ m, convN x [] i m = 0
  | 0 => rfl
  | m + 1 => by
    rw [convN, conv_nil x i m]
    split
    · simp
    · rfl
theorem prod_list (l1 l2 : Int) (x y : List Int) : tidyP (l1 + l2) (listN (fun j => convN x y j x.length) (x.length + y.length)) = prodP ⟨l1, x⟩ ⟨l2, y⟩ := by
  refine trim_unique (tidy_trim _ _) (prod_trim _ _) fun k => ?_
  unfold prodP
  by_cases h0 : x.length = 0 ∨ y.length = 0
  · rw [if_pos h0, tidy_pat, pat_nil]
    unfold pat
    split
    · show (listN _ _).getD _ 0 = 0
      generalize (k - (l1 + l2)).toNat = i
      by_cases hi : i < x.length + y.length
      · rw [listN_get hi]
        rcases h0 with h | h
        · rw [h]; rfl
        · rw [List.length_eq_zero_iff.1 h]; exact conv_nil x i _
      · exact getD_far (by rw [listN_len]; omega)
    · rfl
  · rw [if_neg h0, tidy_pat, tidy_pat]
    unfold pat
    show (if l1 + l2 ≤ k then (listN _ _).getD (k - (l1 + l2)).toNat 0 else 0) = if l1 + l2 ≤ k then (convL x y).getD (k - (l1 + l2)).toNat 0 else 0
    split
    · generalize (k - (l1 + l2)).toNat = i
      by_cases hi : i < x.length + y.length - 1
      · rw [listN_get (by omega), convL_get x y i hi]
      · rw [getD_far (l := convL x y) (by rw [convL_len]; omega)]
        by_cases hi2 : i < x.length + y.length
        · rw [listN_get hi2]
          exact convN_from x y i _ (by omega)
        · exact getD_far (by rw [listN_len]; omega)
    · rfl
theorem made_totals (n : Nat) : (madeCells (Value.cells (.agg #[.int .i64 0, .int .i64 0])) (n * 2)).toList = intsV (listN (fun _ => 0) (n * 2)) := by
  rw [show Value.cells (.agg #[.int .i64 0, .int .i64 0]) = #[.int .i64 0, .int .i64 0] from rfl]
  refine List.ext_getElem (by simp [madeCells, intsV, listN]) fun j h1 h2 => ?_
  have hj : j < n * 2 := by simpa [madeCells] using h1
  rcases Nat.mod_two_eq_zero_or_one j with h | h <;> simp [madeCells, intsV, listN, h]

end Go.Proofs.Ytakfobihakbefaa

/- The program's PolyTimes. -/

namespace Go.Proofs.Ytakfobihakbefaa
open Go.RowKit

theorem timesP_fit {w : World} {l1 l2 : Int} {x y : List Int} {a1 a2 : Option Addr} {n1 n2 : Nat} {b : Bool} {p : Pl} (_ : Ints w a1 n1 x) (_ : Ints w a2 n2 y) (_ : timesPB ⟨l1, x⟩ ⟨l2, y⟩ = b) (hp : timesP ⟨l1, x⟩ ⟨l2, y⟩ = p) : p.cs.length ≤ 200 := by
  unfold timesP at hp
  refine doneP_len (fun h => ?_) hp
  unfold timesPB at h
  simp only [Bool.and_eq_true] at h
  exact h.2.2
end Go.Proofs.Ytakfobihakbefaa

/- Division undoes products, and products undo division (mathematics). -/

namespace Go.Proofs.Ytakfobihakbefaa
open Go.RowKit

theorem convN_cons (x : Int) (r y : List Int) (i : Nat) : ∀ m, convN (x :: r) y i (m + 1) = x * y.getD i 0 + (if 0 < i then convN r y (i - 1) m else 0)
  | 0 => by
    rw [convN, convN, convN, if_pos (Nat.zero_le _), Nat.sub_zero, ite_self, Int.add_zero, Int.zero_add]
    rfl
  | m + 1 => by
    rw [convN, convN_cons x r y i m]
    by_cases hi : 0 < i
    · rw [if_pos hi, if_pos hi, convN]
      by_cases h : m + 1 ≤ i
      · rw [if_pos h, if_pos (by omega), show i - (m + 1) = i - 1 - m by omega, Int.add_assoc]
        rfl
      · rw [if_neg h, if_neg (by omega)]
        omega
    · rw [if_neg hi, if_neg hi, if_neg (by omega)]
      omega
theorem convL_nil (y : List Int) (i : Nat) : (convL [] y).getD i 0 = 0 := by
  by_cases h : i < ([] : List Int).length + y.length - 1
  · rw [convL_get _ _ _ h]; rfl
  · exact getD_far (by rw [convL_len]; omega)
theorem convL_head (x : Int) (r y : List Int) (hy : 0 < y.length) : (convL (x :: r) y).getD 0 0 = x * y.getD 0 0 := by
  rw [convL_get _ _ _ (by rw [List.length_cons]; omega), List.length_cons, convN_cons, if_neg (Nat.lt_irrefl _), Int.add_zero]
theorem convL_next (x : Int) (r y : List Int) (hy : 0 < y.length) (i : Nat) : (convL (x :: r) y).getD (i + 1) 0 = x * y.getD (i + 1) 0 + (convL r y).getD i 0 := by
  by_cases h : i + 1 < (x :: r).length + y.length - 1
  · have hc : r.length + y.length - 1 ≤ i ∨ i < r.length + y.length - 1 := by omega
    rw [List.length_cons] at h
    rw [convL_get _ _ _ (by rw [List.length_cons]; omega), List.length_cons, convN_cons, if_pos (by omega), Nat.add_sub_cancel, convL_get _ _ _ (by omega)]
  · rw [List.length_cons] at h
    rw [getD_far (l := convL (x :: r) y) (by rw [convL_len, List.length_cons]; omega), getD_far (l := y) (by omega), getD_far (l := convL r y) (by rw [convL_len]; omega), Int.mul_zero]
    rfl
theorem mul4 {a b : Int} (h1 : -4 ≤ a ∧ a ≤ 4) (h2 : -4 ≤ b ∧ b ≤ 4) : -16 ≤ a * b ∧ a * b ≤ 16 := by
  have : a = -4 ∨ a = -3 ∨ a = -2 ∨ a = -1 ∨ a = 0 ∨ a = 1 ∨ a = 2 ∨ a = 3 ∨ a = 4 := by omega
  rcases this with rfl | rfl | rfl | rfl | rfl | rfl | rfl | rfl | rfl <;> omega
theorem convN_small {x y : List Int} (hx : ∀ i, -4 ≤ x.getD i 0 ∧ x.getD i 0 ≤ 4) (hy : ∀ i, -4 ≤ y.getD i 0 ∧ y.getD i 0 ≤ 4) (i : Nat) : ∀ m : Nat, -16 * (m : Int) ≤ convN x y i m ∧ convN x y i m ≤ 16 * (m : Int)
  | 0 => by rw [convN]; omega
  | m + 1 => by
    have h1 := convN_small hx hy i m
    have h2 := mul4 (hx m) (hy (i - m))
    rw [convN]
    split <;> omega
theorem convL_small {x y : List Int} (hx : ∀ i, -4 ≤ x.getD i 0 ∧ x.getD i 0 ≤ 4) (hy : ∀ i, -4 ≤ y.getD i 0 ∧ y.getD i 0 ≤ 4) (hl : x.length ≤ 1000) (i : Nat) : -16000 ≤ (convL x y).getD i 0 ∧ (convL x y).getD i 0 ≤ 16000 := by
  by_cases h : i < x.length + y.length - 1
  · rw [convL_get _ _ _ h]
    have := convN_small hx hy i x.length
    omega
  · rw [getD_far (by rw [convL_len]; omega)]; omega
theorem leftIn_of {z : Int} (h1 : -4000000000000000000 ≤ z) (h2 : z ≤ 4000000000000000000) : leftIn z = true := by
  unfold leftIn inR
  simp [h1, h2]
theorem coefIn_of {z : Int} (h1 : -1000000000 ≤ z) (h2 : z ≤ 1000000000) : coefIn z = true := by
  unfold coefIn inR
  simp [h1, h2]

/-- A product is divided. -/
theorem div_prod {y : List Int} (hy : 0 < y.length) (hy0 : y.getD 0 0 ≠ 0) (hyb : ∀ i, -4 ≤ y.getD i 0 ∧ y.getD i 0 ≤ 4) : ∀ x : List Int, (∀ i, -4 ≤ x.getD i 0 ∧ x.getD i 0 ≤ 4) → x.length ≤ 1000 → divGo y x.length (convL x y) = some (x, convL [] y)
  | [], _, _ => rfl
  | x :: r, hx, hl => by
    have hr : ∀ i, -4 ≤ r.getD i 0 ∧ r.getD i 0 ≤ 4 := fun i => by
      have := hx (i + 1)
      simpa using this
    have hx0 : -4 ≤ x ∧ x ≤ 4 := by
      have := hx 0
      simpa using this
    rw [List.length_cons] at hl
    have e0 := convL_head x r y hy
    have hQ : stepQ y (convL (x :: r) y) = x := by
      unfold stepQ
      rw [e0]
      exact Int.mul_tdiv_cancel x hy0
    have hB : stepB y (convL (x :: r) y) = true := by
      refine step_yes ?_ ?_ fun i hi => ?_
      · rw [e0]; exact Int.mul_tmod_left x _
      · rw [hQ]; exact coefIn_of (by omega) (by omega)
      · rw [hQ]
        cases i with
        | zero => rw [e0, Int.sub_self]; rfl
        | succ i =>
          rw [convL_next x r y hy i]
          have := convL_small hr hyb (by omega) i
          exact leftIn_of (by omega) (by omega)
    have hT : (subQ x y (convL (x :: r) y)).tail = convL r y := by
      refine eq_getD ?_ fun i _ => ?_
      · rw [List.length_tail, subQ_len, convL_len, convL_len, List.length_cons]
        omega
      · rw [tail_get, subQ_get _ _ _ _ (by rw [convL_len, List.length_cons]; omega), convL_next x r y hy i]
        omega
    rw [List.length_cons, divGo, if_pos hB, hQ, hT, div_prod hy hy0 hyb r hr (by omega)]
    rfl
/-- What is divided is a product. -/
theorem div_back {y : List Int} (hy : 0 < y.length) : ∀ (n : Nat) (left qs rest : List Int), left.length = n + y.length - 1 → divGo y n left = some (qs, rest) → qs.length = n ∧ (zeroL rest = true → left = convL qs y)
  | 0, left, qs, rest, hl, h => by
    rw [divGo] at h
    simp only [Option.some.injEq, Prod.mk.injEq] at h
    obtain ⟨rfl, rfl⟩ := h
    refine ⟨rfl, fun hz => eq_getD (by rw [hl, convL_len]; rfl) fun i hi => ?_⟩
    rw [convL_nil]
    by_cases hne : left.getD i 0 = 0
    · exact hne
    · rw [zeroL_no hne] at hz; exact absurd hz (by decide)
  | n + 1, left, qs, rest, hl, h => by
    rw [divGo] at h
    cases hB : stepB y left with
    | false => rw [if_neg (by rw [hB]; exact Bool.false_ne_true)] at h; cases h
    | true =>
      rw [if_pos hB] at h
      cases hD : divGo y n (subQ (stepQ y left) y left).tail with
      | none => rw [hD] at h; cases h
      | some p =>
        rw [hD] at h
        obtain ⟨q1, r1⟩ := p
        have h : some (stepQ y left :: q1, r1) = some (qs, rest) := h
        simp only [Option.some.injEq, Prod.mk.injEq] at h
        obtain ⟨rfl, rfl⟩ := h
        obtain ⟨i1, i2⟩ := div_back hy n _ q1 r1 (by rw [List.length_tail, subQ_len, hl]; omega) hD
        refine ⟨by rw [List.length_cons, i1], fun hz => eq_getD (by rw [hl, convL_len, List.length_cons, i1]) fun i _ => ?_⟩
        have e := i2 hz
        have hle : y.length ≤ left.length := by omega
        cases i with
        | zero =>
          rw [convL_head _ _ _ hy]
          have h0 := step_head hle (step_parts hB).1
          rw [subQ_get _ _ _ _ hle] at h0
          omega
        | succ i =>
          rw [convL_next _ _ _ hy, ← e, tail_get, subQ_get _ _ _ _ hle]
          omega
/-- The product of two polynomials that are not 0. -/
theorem prod_trimmed {a b : Pl} (ha : Trim a) (hb : Trim b) (h1 : 0 < a.cs.length) (h2 : 0 < b.cs.length) : prodP a b = ⟨a.low + b.low, convL a.cs b.cs⟩ := by
  unfold prodP
  rw [if_neg (by omega)]
  obtain ⟨a0, a1⟩ := trim_nonzero ha h1
  obtain ⟨b0, b1⟩ := trim_nonzero hb h2
  have e : tidyP (⟨a.low + b.low, convL a.cs b.cs⟩ : Pl).low (⟨a.low + b.low, convL a.cs b.cs⟩ : Pl).cs = _ := tidy_self (p := ⟨a.low + b.low, convL a.cs b.cs⟩) (by
    refine .inr ⟨fun e => ?_, ?_, ?_⟩
    · have e : convL a.cs b.cs = [] := e
      have := convL_len a.cs b.cs
      rw [e] at this
      simp at this
      omega
    · show (convL a.cs b.cs).getD 0 0 ≠ 0
      cases hx : a.cs with
      | nil => rw [hx] at h1; exact absurd h1 (Nat.lt_irrefl _)
      | cons x r =>
        rw [convL_head x r _ h2]
        rw [hx] at a0
        exact Int.mul_ne_zero (by simpa using a0) b0
    · show (convL a.cs b.cs).getD ((convL a.cs b.cs).length - 1) 0 ≠ 0
      obtain ⟨m, hm⟩ : ∃ m, a.cs.length = m + 1 := ⟨a.cs.length - 1, by omega⟩
      rw [convL_len, convL_get _ _ _ (by omega), hm, convN, convN_from _ _ _ m (by omega), if_pos (by omega), Int.zero_add]
      rw [hm] at a1
      refine Int.mul_ne_zero (by simpa using a1) ?_
      rw [show m + 1 + b.cs.length - 1 - 1 - m = b.cs.length - 1 by omega]
      exact b1)
  exact e
theorem convL_zero (y : List Int) : zeroL (convL [] y) = true := zeroL_yes fun i _ => convL_nil y i
/-- Products are divided. -/
theorem over_prod {a b : Pl} (ha : Trim a) (hb : Trim b) (h2 : 0 < b.cs.length) (hxa : ∀ i, -4 ≤ a.cs.getD i 0 ∧ a.cs.getD i 0 ≤ 4) (hxb : ∀ i, -4 ≤ b.cs.getD i 0 ∧ b.cs.getD i 0 ≤ 4) (hl : a.cs.length ≤ 1000) : overQ (prodP a b) b = some a := by
  by_cases h1 : a.cs.length = 0
  · have ea : a = ⟨0, []⟩ := trim_unique ha (.inl ⟨rfl, rfl⟩) fun k => by rw [pat_none h1, pat_nil]
    have ep : prodP a b = ⟨0, []⟩ := by unfold prodP; rw [if_pos (.inl h1)]
    rw [ep, ea]
    rfl
  · rw [prod_trimmed ha hb (by omega) h2]
    rw [overQ_some (by show 0 < (convL a.cs b.cs).length; rw [convL_len]; omega)]
    show outQ (a.low + b.low - b.low) (divGo b.cs ((convL a.cs b.cs).length + 1 - b.cs.length) (convL a.cs b.cs)) = some a
    rw [convL_len, show a.cs.length + b.cs.length - 1 + 1 - b.cs.length = a.cs.length by omega, div_prod h2 (trim_nonzero hb h2).1 hxb a.cs hxa hl]
    show (if zeroL (convL [] b.cs) then some (tidyP (a.low + b.low - b.low) a.cs) else none) = some a
    rw [convL_zero, if_pos rfl, show a.low + b.low - b.low = a.low by omega, tidy_self ha]
/-- What is divided is multiplied again. -/
theorem over_back {a b p : Pl} (ha : Trim a) (h2 : 0 < b.cs.length) (h : overQ a b = some p) : prodP p b = a := by
  by_cases h1 : a.cs.length = 0
  · have ea : a = ⟨0, []⟩ := trim_unique ha (.inl ⟨rfl, rfl⟩) fun k => by rw [pat_none h1, pat_nil]
    have e : overQ a b = some a := by unfold overQ; rw [if_pos h1]
    rw [e] at h
    simp only [Option.some.injEq] at h
    subst h
    unfold prodP
    rw [if_pos (.inl h1), ea]
  · rw [overQ_some (by omega)] at h
    obtain ⟨a0, _⟩ := trim_nonzero ha (by omega)
    cases hD : divGo b.cs (a.cs.length + 1 - b.cs.length) a.cs with
    | none => rw [hD] at h; cases h
    | some q =>
      obtain ⟨qs, rest⟩ := q
      rw [hD] at h
      have h : (if zeroL rest then some (tidyP (a.low - b.low) qs) else none) = some p := h
      cases hz : zeroL rest with
      | false => rw [hz] at h; cases h
      | true =>
        rw [hz, if_pos rfl] at h
        simp only [Option.some.injEq] at h
        subst h
        have hn : 0 < a.cs.length + 1 - b.cs.length := by
          by_cases hn : 0 < a.cs.length + 1 - b.cs.length
          · exact hn
          · rw [show a.cs.length + 1 - b.cs.length = 0 by omega, divGo] at hD
            simp only [Option.some.injEq, Prod.mk.injEq] at hD
            obtain ⟨_, rfl⟩ := hD
            rw [zeroL_no a0] at hz
            exact absurd hz (by decide)
        obtain ⟨hq, hc⟩ := div_back h2 _ _ qs rest (by omega) hD
        have hc := hc hz
        refine trim_unique (prod_trim _ _) ha fun k => ?_
        rw [prod_pat, mulF_congr1 (b := ⟨a.low - b.low, qs⟩) (fun k => tidy_pat _ _ k), ← prod_pat]
        unfold prodP
        rw [if_neg (by show ¬ (qs.length = 0 ∨ b.cs.length = 0); omega)]
        show pat (tidyP (a.low - b.low + b.low) (convL qs b.cs)) k = pat a k
        rw [← hc, show a.low - b.low + b.low = a.low by omega, tidy_self ha]

end Go.Proofs.Ytakfobihakbefaa

/- The program's takeOut. -/

namespace Go.Proofs.Ytakfobihakbefaa
open Go.RowKit

theorem boxKept {w w1 W : World} {t : TypeId} {x y : Value} {g : Nat} (hW : w.alloc (.cells #[x, y] t) = W) (hg : W.grownBy w1 (some g)) (hgl : g < w.heap.size) : w1.cell? ⟨w.heap.size, 0, none⟩ = some x ∧ w1.cell? ⟨w.heap.size, 1, none⟩ = some y := by
  have hsz : W.heap.size = w.heap.size + 1 := by rw [← hW]; simp
  have e0 := hg.block w.heap.size (by omega) (by simp; omega)
  rw [← hW, World.alloc_heap_new] at e0
  exact ⟨by simp [World.cell?, e0], by simp [World.cell?, e0]⟩
/-- Ints that lie in another block than the one that is written. -/
theorem Ints.keptBut {w W w1 : World} {a : Option Addr} {n g : Nat} {zs : List Int} (h : Ints w a n zs) (hbW : Below w.heap.size w W) (hg : W.grownBy w1 (some g)) (hne : n = 0 ∨ ∀ x, a = some x → x.block ≠ g) : ∀ k, k < n → ∀ x, a = some x → ∀ z, zs.getD k 0 = z → w1.cell? (x.add k) = some (.int .i64 z) := fun k hk x hx z hz => by
  obtain ⟨x', e, hb, hc⟩ := h.at_ (by omega)
  obtain rfl : x = x' := by rw [hx] at e; simpa using e
  have hl := h.len
  have hne' : (x.add k).block ≠ g := by rw [addr_add_block]; exact (hne.resolve_left (by omega)) x hx
  have hbk := hbW.cell (p := x.add k) (by rw [addr_add_block]; exact hb)
  have hbl : (x.add k).block < W.heap.size := by rw [addr_add_block]; have := hbW.size; omega
  have e1 := hg.block (x.add k).block hbl (by simp; exact hne')
  have e2 : w1.cell? (x.add k) = W.cell? (x.add k) := by unfold World.cell?; rw [e1]
  rw [e2, hbk, hc k (by omega), ← hz, List.getD_eq_getElem?_getD, List.getElem?_eq_getElem (by omega)]
  rfl
theorem mul_in {q b : Int} (h1 : -1000000000 ≤ q ∧ q ≤ 1000000000) (h2 : -1000000000 ≤ b ∧ b ≤ 1000000000) : -1000000000000000000 ≤ q * b ∧ q * b ≤ 1000000000000000000 := by
  have h := conv_bound (x := [q]) (y := [b]) (fun i => by cases i with | zero => exact h1 | succ i => simp) (fun i => by cases i with | zero => exact h2 | succ i => simp) 0 0
  exact h

/-- What takeOut comes to: the number that it tells, and the row. -/
def Taken (base g n1 capN i : Nat) (bs left : List Int) (s : Bool) (e : Ending) (w' : World) : Prop :=
  (s = true ∧ e = .returned (.tuple #[.int .i64 (stepQ bs left), .bool true]) ∧ w'.ownsRow base 3 1 (.slice (some ⟨g, 0, none⟩) n1 capN) n1 (intsV (listN (rowG (i + 1) (subQ (stepQ bs left) bs left).tail) n1))) ∨ (s = false ∧ e = .returned (.tuple #[.int .i64 0, .bool false]))

end Go.Proofs.Ytakfobihakbefaa

/- The program's over. -/

namespace Go.Proofs.Ytakfobihakbefaa
open Go.RowKit

def sliceLen : Value → Nat
  | .slice _ n _ => n
  | _ => 0
theorem drop_row {i m n : Nat} {left : List Int} (h : i + m = n) (hl : left.length = m) : ((listN (rowG i left) n).drop i).take m = left := by
  refine eq_getD (by rw [List.length_take, List.length_drop, listN_len]; omega) fun k hk => ?_
  rw [List.length_take, List.length_drop, listN_len] at hk
  rw [List.getD_eq_getElem?_getD, List.getElem?_take_of_lt (by omega), List.getElem?_drop, ← List.getD_eq_getElem?_getD, listN_get (by omega), rowG_at]
theorem any_zero (l : List Int) : (l.any fun z => !decide (z = 0)) = !zeroL l := by
  unfold zeroL
  rw [List.not_all_eq_any_not]
theorem rowG_in {i n : Nat} {left : List Int} (hl : LeftOK left) : ∀ z ∈ listN (rowG i left) n, -9223372036854775808 ≤ z ∧ z ≤ 9223372036854775807 := fun z hz => by
  unfold listN at hz
  obtain ⟨j, _, rfl⟩ := List.mem_map.1 hz
  unfold rowG
  split
  · omega
  · have := hl (j - i)
    omega
theorem coefs_in {qs : List Int} (h : ∀ z ∈ qs, coefIn z = true) : ∀ z ∈ qs, -9223372036854775808 ≤ z ∧ z ≤ 9223372036854775807 := fun z hz => by
  have := coefIn_yes (h z hz)
  omega

end Go.Proofs.Ytakfobihakbefaa

/- The program's PolyOver. -/

namespace Go.Proofs.Ytakfobihakbefaa
open Go.RowKit

theorem over_done {a b : Pl} {t : Bool} (h : overB a b = t) : doneP t (overP a b) = overP a b := by
  cases t with
  | true => rfl
  | false =>
    cases e : overQ a b with
    | none => rw [(over_none e).2]; rfl
    | some p =>
      obtain ⟨h1, h2⟩ := over_some e
      rw [h2, ← h1, h]
      rfl
theorem divided_over {a b : Pl} {t : Bool} (h : dividedB a b = t) (ha : polyB a = true) (hb : polyB b = true) (h0 : 0 < b.cs.length) : overB a b = t ∧ dividedP a b = overP a b := by
  have e : overB a b = t := by
    rw [← h]
    unfold dividedB
    rw [ha, hb, decide_eq_true h0]
    rfl
  refine ⟨e, ?_⟩
  unfold dividedP
  rw [h]
  exact over_done e
theorem divided_no {a b : Pl} {t : Bool} (h : dividedB a b = t) (h0 : polyB a = false ∨ polyB b = false ∨ b.cs.length = 0) : t = false ∧ dividedP a b = ⟨0, []⟩ := by
  have e : dividedB a b = false := by
    unfold dividedB
    rcases h0 with h0 | h0 | h0
    · rw [h0]; rfl
    · rw [h0, Bool.false_and, Bool.and_false]
    · rw [decide_eq_false (by omega), Bool.false_and, Bool.and_false, Bool.and_false]
  refine ⟨h.symm.trans e, ?_⟩
  unfold dividedP
  rw [e]
  rfl
theorem divided_zero {a b : Pl} {t : Bool} (h : dividedB a b = t) (ha : polyB a = true) (hb : polyB b = true) (h0 : 0 < b.cs.length) (h1 : a.cs.length = 0) : t = true ∧ dividedP a b = ⟨0, []⟩ := by
  have ea : a = ⟨0, []⟩ := trim_unique (polyB_trim ha).1 (.inl ⟨rfl, rfl⟩) fun k => by rw [pat_none h1, pat_nil]
  obtain ⟨e1, e2⟩ := divided_over h ha hb h0
  have e : overQ a b = some a := by unfold overQ; rw [if_pos h1]
  obtain ⟨e3, e4⟩ := over_some e
  refine ⟨by rw [← e1, e3, ha], ?_⟩
  rw [e2, e4, ha, ea]
  rfl

end Go.Proofs.Ytakfobihakbefaa

/- The model's PolyOver. -/

namespace Go.Proofs.Ytakfobihakbefaa
open Go.RowKit

end Go.Proofs.Ytakfobihakbefaa

/- The model's PolyOver whatever comes in; both sides as the law wants them. -/

namespace Go.Proofs.Ytakfobihakbefaa
open Go.RowKit

end Go.Proofs.Ytakfobihakbefaa

/- The contracts of both sides' functions on polynomials, the answer under a name of its own. -/

namespace Go.Proofs.Ytakfobihakbefaa
open Go.RowKit

/-- Coefficients that came in or were answered. -/
structure PIn (w : World) (a : Option Addr) (n c : Nat) (zs : List Int) : Prop where
  is : Ints w a n zs
  le : n ≤ c
theorem PIn.below {w w' : World} {a : Option Addr} {n c : Nat} {zs : List Int} (h : PIn w a n c zs) (hb : Below w.heap.size w w') : PIn w' a n c zs := ⟨h.is.below hb, h.le⟩
theorem PIn.len {w : World} {a : Option Addr} {n c : Nat} {zs : List Int} (h : PIn w a n c zs) : zs.length = n := h.is.len
/-- What a function that tells a polynomial comes to. -/
def PolyT (W : World) (b : Bool) (l : Int) (n : Nat) (zs : List Int) (e : Ending) (w' : World) : Prop := (∃ a c, e = .returned (.tuple #[plV l (.slice a n c), .bool b]) ∧ PIn w' a n c zs) ∧ Below W.heap.size W w'
theorem PolyT.of {W w' : World} {b t : Bool} {q : Pl} {l : Int} {zs : List Int} {n : Nat} {e : Ending} (h : (∃ v, e = .returned (.tuple #[plV l v, .bool b]) ∧ IntRow W.heap.size w' v zs) ∧ Below W.heap.size W w') (hb : t = true → polyB q = true) (hp : doneP t q = ⟨l, zs⟩) (hn : zs.length = n) : PolyT W b l n zs e w' := by
  subst hn
  obtain ⟨⟨v, rfl, hr⟩, hB⟩ := h
  obtain ⟨a, c, rfl, hc, hi⟩ := hr.readc (doneP_mem hb hp)
  exact ⟨⟨a, c, rfl, hi, hc⟩, hB⟩

theorem divided_in {a b : Pl} (h : dividedB a b = true) : polyB (overP a b) = true := by
  unfold dividedB at h
  simp only [Bool.and_eq_true] at h
  have h := h.2.2.2
  cases e : overQ a b with
  | none => rw [(over_none e).1] at h; exact absurd h (by decide)
  | some q =>
    obtain ⟨h1, h2⟩ := over_some e
    rw [h1] at h
    rw [h2, h]
    exact h

section
variable {W : World} {a a2 : Option Addr} {n c m c2 k : Nat} {x y pc : List Int} {b : Bool} {l l2 pl : Int}
theorem sPolyIn_t (h : PIn W a n c x) (hb : polyB ⟨l, x⟩ = b) : Calls Try.prog 74 #[plV l (.slice a n c)] W fun e w' => e = .returned (.bool b) ∧ Below W.heap.size W w' := sPolyIn_any l x a c n b W h.is hb
theorem sPolyPlain_t (h : PIn W a n c x) (hb : polyB ⟨l, x⟩ = b) (hp : plainedP ⟨l, x⟩ = ⟨pl, pc⟩) (hk : pc.length = k) : Calls Try.prog 26 #[plV l (.slice a n c)] W (PolyT W b pl k pc) := by
  refine (sPolyPlain_any l x a c n b W h.is hb).mono fun e w' hh => ?_
  rw [show doneP b (plainP ⟨l, x⟩) = ⟨pl, pc⟩ by rw [← hb]; exact hp] at hh
  exact PolyT.of hh plain_polyB hp hk
theorem iPolyIn_t (h : PIn W a n c x) (hb : polyB ⟨l, x⟩ = b) : Calls Try.prog 70 #[plV l (.slice a n c)] W fun e w' => e = .returned (.bool b) ∧ Below W.heap.size W w' := iPolyIn_any l x a c n b W h.is h.le hb
theorem iPolyPlain_t (h : PIn W a n c x) (hb : polyB ⟨l, x⟩ = b) (hp : plainedP ⟨l, x⟩ = ⟨pl, pc⟩) (hk : pc.length = k) : Calls Try.prog 25 #[plV l (.slice a n c)] W (PolyT W b pl k pc) := by
  refine (iPolyPlain_any l x a c n b W h.is h.le hb).mono fun e w' hh => ?_
  rw [show doneP b (plainP ⟨l, x⟩) = ⟨pl, pc⟩ by rw [← hb]; exact hp] at hh
  exact PolyT.of hh plain_polyB hp hk
theorem sPolyAlike_t (h : PIn W a n c x) (h2 : PIn W a2 m c2 y) (hb : alikeB ⟨l, x⟩ ⟨l2, y⟩ = b) : Calls Try.prog 30 #[plV l (.slice a n c), plV l2 (.slice a2 m c2)] W fun e w' => e = .returned (.bool b) ∧ Below W.heap.size W w' := sPolyAlike_any l l2 x y a a2 c c2 n m _ _ b W h.is h2.is rfl rfl hb
theorem iPolyAlike_t (h : PIn W a n c x) (h2 : PIn W a2 m c2 y) (hb : alikeB ⟨l, x⟩ ⟨l2, y⟩ = b) : Calls Try.prog 28 #[plV l (.slice a n c), plV l2 (.slice a2 m c2)] W fun e w' => e = .returned (.bool b) ∧ Below W.heap.size W w' := iPolyAlike_any l l2 x y a a2 c c2 n m _ _ b W h.is h2.is h.le h2.le rfl rfl hb
end

end Go.Proofs.Ytakfobihakbefaa

/- The laws' samePoly; boxes that may be written. -/

namespace Go.Proofs.Ytakfobihakbefaa
open Go.RowKit

/-- A box of a polynomial that may be written. -/
def BoxF (w : World) (j : Nat) (x y : Value) : Prop := j < w.heap.size ∧ w.cell? ⟨j, 0, none⟩ = some x ∧ w.cell? ⟨j, 1, none⟩ = some y ∧ w.frozen? ⟨j, 0, none⟩ = false ∧ w.frozen? ⟨j, 1, none⟩ = false
theorem BoxF.below {w w' : World} {j : Nat} {x y : Value} (h : BoxF w j x y) (hb : Below w.heap.size w w') : BoxF w' j x y := by
  have e := hb.block j h.1
  refine ⟨Nat.lt_of_lt_of_le h.1 hb.size, ?_, ?_, ?_, ?_⟩
  · rw [← h.2.1]; simp [World.cell?, e]
  · rw [← h.2.2.1]; simp [World.cell?, e]
  · rw [← h.2.2.2.1]; simp [World.frozen?, e]
  · rw [← h.2.2.2.2]; simp [World.frozen?, e]
theorem BoxF.grown {w w' : World} {j : Nat} {x y : Value} {row : Option Nat} (h : BoxF w j x y) (hg : w.grownBy w' row) (hne : some j ≠ row) : BoxF w' j x y := by
  have e := hg.block j h.1 hne
  refine ⟨Nat.lt_of_lt_of_le h.1 hg.size, ?_, ?_, ?_, ?_⟩
  · rw [← h.2.1]; simp [World.cell?, e]
  · rw [← h.2.2.1]; simp [World.cell?, e]
  · rw [← h.2.2.2.1]; simp [World.frozen?, e]
  · rw [← h.2.2.2.2]; simp [World.frozen?, e]
theorem BoxF.new {w W : World} {t : TypeId} {x y : Value} (hW : w.alloc (.cells #[x, y] t) = W) : BoxF W w.heap.size x y := by
  have e : W.heap[w.heap.size]? = some (.cells #[x, y] t (0, 0)) := by rw [← hW]; exact World.alloc_heap_new w _
  refine ⟨by rw [← hW]; simp, ?_, ?_, ?_, ?_⟩ <;> simp [World.cell?, World.frozen?, e]
theorem BoxF.fill {w : World} {j : Nat} {x y : Value} (u v : Value) (h : BoxF w j x y) : BoxF ((w.setCell ⟨j, 0, none⟩ u).setCell ⟨j, 1, none⟩ v) j u v := by
  obtain ⟨h0, h1, h2, h3, h4⟩ := h
  refine ⟨by simp; exact h0, ?_, ?_, ?_, ?_⟩
  · go_simp
  · go_simp
  · rw [World.frozen?_setCell, World.frozen?_setCell]; exact h3
  · rw [World.frozen?_setCell, World.frozen?_setCell]; exact h4
theorem grown_cell (w : World) (b o : Nat) (v : Value) : w.grownBy (w.setCell ⟨b, o, none⟩ v) (some b) :=
  ⟨((Below.refl 0 w).setCell (p := ⟨b, o, none⟩) (Nat.zero_le _) v).os, ((Below.refl 0 w).setCell (p := ⟨b, o, none⟩) (Nat.zero_le _) v).tape, ((Below.refl 0 w).setCell (p := ⟨b, o, none⟩) (Nat.zero_le _) v).output, ((Below.refl 0 w).setCell (p := ⟨b, o, none⟩) (Nat.zero_le _) v).size, fun i _ hne => Below.heap_setCell w ⟨b, o, none⟩ v i (fun e => hne (by rw [e]))⟩
theorem grown_cells (w : World) (b : Nat) (u v : Value) : w.grownBy ((w.setCell ⟨b, 0, none⟩ u).setCell ⟨b, 1, none⟩ v) (some b) := grownTrans (grown_cell w b 0 u) (grown_cell _ b 1 v)
theorem BoxF.other {w : World} {j B : Nat} {x y : Value} (u v : Value) (h : BoxF w j x y) (hne : j ≠ B) : BoxF ((w.setCell ⟨B, 0, none⟩ u).setCell ⟨B, 1, none⟩ v) j x y := h.grown (grown_cells w B u v) (fun e => hne (by simpa using e))
theorem row_others {w : World} {base B : Nat} {v x y : Value} {zs : List Int} (h : IntRow base w v zs) (hne : ∀ j, v.ownBlock = some j → j ≠ B) : IntRow base ((w.setCell ⟨B, 0, none⟩ x).setCell ⟨B, 1, none⟩ y) v zs := by
  unfold IntRow at h ⊢
  refine h.kept (grown_cells w B x y) ?_
  cases e : v.ownBlock with
  | none => exact .inl rfl
  | some j => exact .inr fun e2 => hne j e (by simpa using e2)

set_option maxRecDepth 100000 in
set_option maxHeartbeats 1000000 in
theorem sameIntsI_yes (a1 a2 : Option Addr) (c1 c2 n : Nat) (zs : List Int) (w : World) (h1 : Ints w a1 n zs) (h2 : Ints w a2 n zs) :
    Calls Try.prog 78 #[.slice a1 n c1, .slice a2 n c2] w fun e w' => e = .returned (.bool true) ∧ Below w.heap.size w w' := by
  have hm := h1.max
  unfold maxLen at hm
  have H1 := Lib.hid h1
  have H2 := Lib.hid h2
  clear h1 h2
  go_enter Try.func78, Try.ntmps78
  go_wp2
  go_loopw [5] (fun i wr => ∃ k : Nat, k ≤ n ∧ i = .int .i64 k ∧ Below w.heap.size w wr) (fun i _ => n - (intOf i).toNat)
  case atStart => exact ⟨0, Nat.zero_le _, rfl, Below.refl _ _⟩
  case round =>
    obtain ⟨k, hk, rfl, hB⟩ := hrel
    by_cases hlt : k < n
    · obtain ⟨z1, rfl, hb1, hc1⟩ := (H1.out.below hB).at_ (by omega)
      obtain ⟨z2, rfl, hb2, hc2⟩ := (H2.out.below hB).at_ (by omega)
      have hkz : k < zs.length := by rw [H1.out.len]; exact hlt
      obtain ⟨z, hz⟩ : ∃ z, zs[k] = z := ⟨_, rfl⟩
      have d1 := hc1 k hkz
      have d2 := hc2 k hkz
      rw [hz] at d1 d2
      clear hz hkz hc1 hc2
      go_wp2
      go_quiet (fail)
      go_wp2
      go_roundw
      case rel => exact ⟨k + 1, by omega, by go_num, below_drewN hB _⟩
      case measure => simp [intOf]; omega
    · go_wp2
      go_ret
      exact ⟨rfl, hB⟩

set_option maxRecDepth 100000 in
set_option maxHeartbeats 1000000 in
theorem samePoly_t {W : World} {a a2 : Option Addr} {n c c2 : Nat} {l : Int} {zs : List Int} (h : PIn W a n c zs) (h2 : PIn W a2 n c2 zs) :
    Calls Try.prog 27 #[plV l (.slice a n c), plV l (.slice a2 n c2)] W fun e w' => e = .returned (.bool true) ∧ Below W.heap.size W w' := by
  obtain ⟨V, hV⟩ : ∃ V, (W.alloc (.cells #[.int .i64 l, .slice a n c] 25)).alloc (.cells #[.int .i64 l, .slice a2 n c2] 25) = V := ⟨_, rfl⟩
  have hbV : Below W.heap.size W V := by rw [← hV]; exact ((Below.refl _ W).alloc (Nat.le_refl _) _).alloc (by simp) _
  have hC := twoCells hV (Below.refl _ _)
  rw [← hV] at hC
  obtain ⟨q0, q1, q2, q3⟩ := hC
  have HS := Lib.hid (sameIntsI_yes a a2 c c2 n zs V (h.is.below hbV) (h2.is.below hbV))
  have HB := Lib.hid hbV
  have HV := Lib.hid hV
  clear hV hbV h h2
  go_enter Try.func27, Try.ntmps27
  go_wp2_with fail
  rw [HV.out]
  refine HS.out.mono ?_
  rintro e w1 ⟨rfl, hb1⟩
  have HB1 := Lib.hid (HB.out.trans (hb1.mono HB.out.size))
  clear hb1 q0 q1 q2 q3
  go_wp2
  go_ret
  exact ⟨rfl, HB1.out⟩

end Go.Proofs.Ytakfobihakbefaa

/- The contracts of the model's reader of drawn inputs: 'l6Open', 'pick', 'of'. -/

namespace Go.Proofs.Ytakfobihakbefaa
open Go.RowKit Go.Shelf

theorem i64_xor (a b : Nat) (ha : a < 2 ^ 63) (hb : b < 2 ^ 63) : bits .xor .i64 (a : Int) (b : Int) = ((a ^^^ b : Nat) : Int) := by
  show IntKind.i64.wrap ((BitVec.ofInt 64 (a : Int) ^^^ BitVec.ofInt 64 (b : Int)).toNat : Int) = _
  rw [BitVec.toNat_xor, ofInt_u64 a (by omega), ofInt_u64 b (by omega)]
  have : a ^^^ b < 2 ^ 63 := Nat.xor_lt_two_pow ha hb
  exact IntWalk.i64_in _ (by omega)

abbrev RdT : TypeId := 114
/-- A slice of bytes, as numbers, in a block below base. -/
structure BsAt (base : Nat) (w : World) (a : Option Addr) (n cap : Nat) (zs : List Int) : Prop where
  len : zs.length = n
  fit : n ≤ cap ∧ cap ≤ maxLen
  at_ : 0 < n → ∃ x, a = some x ∧ x.block < base ∧ ∀ j (h : j < zs.length), w.cell? (x.add j) = some (.int .u8 zs[j])
  byte : ∀ z ∈ zs, 0 ≤ z ∧ z ≤ 255
theorem BsAt.below {base : Nat} {w w' : World} {a : Option Addr} {n cap : Nat} {zs : List Int} (h : BsAt base w a n cap zs) (hb : Below base w w') : BsAt base w' a n cap zs :=
  ⟨h.len, h.fit, fun h0 => by obtain ⟨x, e, hx, hc⟩ := h.at_ h0; exact ⟨x, e, hx, fun j hj => (hb.cell (p := x.add j) (by show (x.add j).block < _; rw [addr_add_block]; exact hx)).trans (hc j hj)⟩, h.byte⟩
theorem bs_of {H : Type} {enc : TypeId × Value → H} {W : World} {base : Nat} {spare : Nat → Bool} {held : Bool} {fuel : Nat} {a : Option Addr} {len cap : Nat} {x : DataW H × List MemPlace}
    (h : DataW.trod enc Try.prog W base spare held fuel 22 [.slice a len cap] = some x) : ∃ zs, BsAt W.heap.size W a len cap zs := by
  rcases Go.ChangeShapes.open_ints Try.underlying22 Try.underlying5 (by kernel_rfl) h with ⟨hcs, _⟩ | ⟨y, l, c, zs, hcs, hb, hl, hm, hz, _, hx, hwf⟩
  · simp at hcs
    obtain ⟨rfl, rfl, rfl⟩ := hcs
    exact ⟨[], rfl, ⟨Nat.le_refl _, Nat.zero_le _⟩, fun h => absurd h (Nat.lt_irrefl _), fun z h => by cases h⟩
  · simp at hcs
    obtain ⟨rfl, rfl, rfl⟩ := hcs
    have hlz : len ≤ zs.length := by rw [hz]; split <;> omega
    refine ⟨zs.take len, by rw [List.length_take]; omega, ⟨hl, hm⟩, fun h0 => ⟨y, rfl, ?_, fun j hj => ?_⟩, fun z hzm => ?_⟩
    · have := World.block_lt_of_cell? _ _ (hx 0 (by omega))
      rwa [addr_add_block] at this
    · rw [List.length_take] at hj
      rw [hx j (by omega), List.getD_eq_getElem?_getD, List.getElem?_eq_getElem (by omega), List.getElem_take]; rfl
    · have h2 := hwf z (List.mem_of_mem_take hzm)
      simp only [Lit.wf, Bool.and_eq_true, decide_eq_true_eq] at h2
      have e1 : IntKind.u8.min = 0 := by decide
      have e2 : IntKind.u8.max = 255 := by decide
      omega
/-- A reader and how far it is. -/
structure Rd (base : Nat) (w : World) (rb : Nat) (a : Option Addr) (n cap : Nat) (zs : List Int) (p : Nat) : Prop where
  lo : base ≤ rb
  box : w.heap[rb]? = some (.cells #[.slice a n cap, .int .i64 p] RdT (0, 0))
  data : BsAt base w a n cap zs
  short : n ≤ 2000
theorem Rd.lt {base : Nat} {w : World} {rb : Nat} {a : Option Addr} {n cap : Nat} {zs : List Int} {p : Nat} (h : Rd base w rb a n cap zs p) : rb < w.heap.size := (Array.getElem?_eq_some_iff.1 h.box).1
theorem Rd.c0 {base : Nat} {w : World} {rb : Nat} {a : Option Addr} {n cap : Nat} {zs : List Int} {p : Nat} (h : Rd base w rb a n cap zs p) : w.cell? ⟨rb, 0, none⟩ = some (.slice a n cap) := by simp [World.cell?, h.box]
theorem Rd.c1 {base : Nat} {w : World} {rb : Nat} {a : Option Addr} {n cap : Nat} {zs : List Int} {p : Nat} (h : Rd base w rb a n cap zs p) : w.cell? ⟨rb, 1, none⟩ = some (.int .i64 p) := by simp [World.cell?, h.box]
theorem Rd.fr {base : Nat} {w : World} {rb : Nat} {a : Option Addr} {n cap : Nat} {zs : List Int} {p : Nat} (h : Rd base w rb a n cap zs p) : w.frozen? ⟨rb, 1, none⟩ = false := by simp [World.frozen?, h.box]
theorem Rd.below {base : Nat} {w w' : World} {rb : Nat} {a : Option Addr} {n cap : Nat} {zs : List Int} {p : Nat} (h : Rd base w rb a n cap zs p) (hb : Below w.heap.size w w') : Rd base w' rb a n cap zs p :=
  ⟨h.lo, (hb.block rb h.lt).trans h.box, h.data.below (hb.mono (Nat.le_of_lt (Nat.lt_of_le_of_lt h.lo h.lt))), h.short⟩
theorem Rd.set {base : Nat} {w : World} {rb : Nat} {a : Option Addr} {n cap : Nat} {zs : List Int} {p : Nat} (h : Rd base w rb a n cap zs p) (q : Nat) : Rd base (w.setCell ⟨rb, 1, none⟩ (.int .i64 q)) rb a n cap zs q := by
  refine ⟨h.lo, ?_, h.data.below ((Below.refl _ w).setCell (p := ⟨rb, 1, none⟩) h.lo _), h.short⟩
  obtain ⟨hlt, hk⟩ := Array.getElem?_eq_some_iff.1 h.box
  show (w.heap.modify rb _)[rb]? = _
  rw [Array.getElem?_eq_getElem (by rw [Array.size_modify]; exact hlt), Array.getElem_modify_self, hk]
  rfl

theorem grown_set (w : World) (a : Addr) (v : Value) : w.grownBy (w.setCell a v) (some a.block) :=
  ⟨rfl, rfl, rfl, by show _ ≤ (w.heap.modify a.block _).size; rw [Array.size_modify]; exact Nat.le_refl _, fun k hk hne => by
    show (w.heap.modify a.block _)[k]? = _
    rw [Array.getElem?_modify, if_neg (fun e => hne (by rw [e]))]⟩

set_option maxRecDepth 100000 in
set_option maxHeartbeats 4000000 in
theorem pick_any (base rb : Nat) (a : Option Addr) (n cap : Nat) (zs : List Int) (p m : Nat) (w : World) (h : Rd base w rb a n cap zs p) (hp : p ≤ 100000) (hm : 1 ≤ m) (hm2 : m ≤ 1000) :
    Calls Try.prog 80 #[.pointer (some ⟨rb, 0, none⟩), .int .i64 m] w fun e w' => (∃ z : Nat, e = .returned (.int .i64 z) ∧ z < m) ∧ Rd base w' rb a n cap zs (p + 1) ∧ Below base w w' ∧ w.grownBy w' (some rb) := by
  have hlt := h.lt
  have hc0 := h.c0
  have hc1 := h.c1
  have hfr := h.fr
  have hsh := h.short
  have hw1 : IntKind.i64.wrap ((p : Int) + 1) = (p : Int) + 1 := IntWalk.i64_in _ (by omega)
  have ep : ((p + 1 : Nat) : Int) = (p : Int) + 1 := by push_cast; rfl
  have hR := h.set (p + 1)
  rw [ep] at hR
  have hB : Below base w (w.setCell ⟨rb, 1, none⟩ (.int .i64 ((p : Int) + 1))) := (Below.refl _ w).setCell (p := ⟨rb, 1, none⟩) h.lo _
  have hG := grown_set w ⟨rb, 1, none⟩ (.int .i64 ((p : Int) + 1))
  obtain ⟨V, hV⟩ : ∃ V, w.setCell ⟨rb, 1, none⟩ (.int .i64 ((p : Int) + 1)) = V := ⟨_, rfl⟩
  have HV := Lib.hid hV
  rw [hV] at hR hB hG
  have HG := Lib.hid hG
  have hd0 := hR.c0
  have hd1 := hR.c1
  rw [ep] at hd1
  have hml : decide ((m : Int) < 1) = false := decide_eq_false (by omega)
  have hml2 : ¬ (m : Int) < 1 := by omega
  have HR := Lib.hid hR
  have HB := Lib.hid hB
  have hmz : ¬ (m : Int) = 0 := by omega
  have HD := Lib.hid hR.data
  have hw2 : IntKind.i64.wrap ((p : Int) + 1 - 1) = (p : Int) := by rw [IntWalk.i64_in _ (by omega)]; omega
  have hrem : ∀ z : Int, 0 ≤ z → ∃ r : Nat, z.tmod (m : Int) = (r : Int) ∧ r < m := fun z hz => ⟨z.toNat % m, by
    rw [Int.tmod_eq_emod_of_nonneg hz, Int.natCast_emod, Int.toNat_of_nonneg hz], Nat.mod_lt _ (by omega)⟩
  have HREM := Lib.hid hrem
  clear h hR hB hV hrem hG
  by_cases hn : n = 0
  · subst hn
    go_enter Try.func80, Try.ntmps80
    go_wp2
    go_ret
    rw [HV.out]
    exact ⟨⟨0, rfl, by omega⟩, HR.out, HB.out, HG.out⟩
  · have hn0 : ¬ (n : Int) = 0 := by omega
    have hne : ((n : Int) == 0) = false := by simpa using hn0
    obtain ⟨x, rfl, hxb, hcx⟩ := HD.out.at_ (by omega)
    have hzl := HD.out.len
    by_cases hpn : p < n
    · have hpz : p < zs.length := by omega
      obtain ⟨z, hz⟩ : ∃ z, zs[p] = z := ⟨_, rfl⟩
      have hcp := hcx p hpz
      rw [hz, ← HV.out] at hcp
      have hzb := HD.out.byte z (by rw [← hz]; exact List.getElem_mem hpz)
      obtain ⟨r, hr, hrm⟩ := HREM.out z hzb.1
      have hwz : IntKind.i64.wrap z = z := IntWalk.i64_in _ (by omega)
      have hwr : IntKind.i64.wrap (r : Int) = (r : Int) := IntWalk.i64_in _ (by omega)
      have hpi : (p : Int) < (n : Int) := by omega
      go_enter Try.func80, Try.ntmps80
      go_wp2_with fail
      go_ret
      rw [HV.out]
      exact ⟨⟨r, rfl, hrm⟩, HR.out, HB.out, HG.out⟩
    · have hpi : ¬ (p : Int) < (n : Int) := by omega
      have hn1 : 0 < n := by omega
      obtain ⟨k1, hk1⟩ : ∃ k, p % n = k := ⟨_, rfl⟩
      obtain ⟨k2, hk2⟩ : ∃ k, (p * 7 + 3) % n = k := ⟨_, rfl⟩
      obtain ⟨d, hd⟩ : ∃ d, p / n = d := ⟨_, rfl⟩
      have hk1n : k1 < n := by rw [← hk1]; exact Nat.mod_lt _ hn1
      have hk2n : k2 < n := by rw [← hk2]; exact Nat.mod_lt _ hn1
      have hdp : d ≤ p := by rw [← hd]; exact Nat.div_le_self _ _
      have ht1 : (p : Int).tmod (n : Int) = (k1 : Int) := by rw [Int.tmod_eq_emod_of_nonneg (by omega), ← hk1]; rfl
      have ht2 : ((p : Int) * 7 + 3).tmod (n : Int) = (k2 : Int) := by rw [Int.tmod_eq_emod_of_nonneg (by omega), ← hk2]; push_cast; rfl
      have ht3 : (p : Int).tdiv (n : Int) = (d : Int) := by rw [Int.tdiv_eq_ediv_of_nonneg (by omega), ← hd]; rfl
      have hz1 : k1 < zs.length := by omega
      have hz2 : k2 < zs.length := by omega
      obtain ⟨q1, hq1⟩ : ∃ z, zs[k1] = z := ⟨_, rfl⟩
      obtain ⟨q2, hq2⟩ : ∃ z, zs[k2] = z := ⟨_, rfl⟩
      have hcp1 := hcx k1 hz1
      have hcp2 := hcx k2 hz2
      rw [hq1, ← HV.out] at hcp1
      rw [hq2, ← HV.out] at hcp2
      have hb1 := HD.out.byte q1 (by rw [← hq1]; exact List.getElem_mem hz1)
      have hb2 := HD.out.byte q2 (by rw [← hq2]; exact List.getElem_mem hz2)
      have hk1i : (k1 : Int) < (n : Int) := by omega
      have hk2i : (k2 : Int) < (n : Int) := by omega
      have a1 : IntKind.i64.wrap (k1 : Int) = (k1 : Int) := IntWalk.i64_in _ (by omega)
      have a2 : IntKind.i64.wrap (k2 : Int) = (k2 : Int) := IntWalk.i64_in _ (by omega)
      have a3 : IntKind.i64.wrap (d : Int) = (d : Int) := IntWalk.i64_in _ (by omega)
      have a4 : IntKind.i64.wrap q1 = q1 := IntWalk.i64_in _ (by omega)
      have a5 : IntKind.i64.wrap q2 = q2 := IntWalk.i64_in _ (by omega)
      have a6 : IntKind.i64.wrap (q1 * 131) = q1 * 131 := IntWalk.i64_in _ (by omega)
      have a7 : IntKind.i64.wrap (q2 * 1117) = q2 * 1117 := IntWalk.i64_in _ (by omega)
      have a8 : IntKind.i64.wrap ((p : Int) * 7) = (p : Int) * 7 := IntWalk.i64_in _ (by omega)
      have a9 : IntKind.i64.wrap ((p : Int) * 7 + 3) = (p : Int) * 7 + 3 := IntWalk.i64_in _ (by omega)
      have b1 : IntKind.i64.wrap (q1 * 131 + q2 * 1117) = q1 * 131 + q2 * 1117 := IntWalk.i64_in _ (by omega)
      have b2 : IntKind.i64.wrap ((p : Int) * 29) = (p : Int) * 29 := IntWalk.i64_in _ (by omega)
      have b3 : IntKind.i64.wrap (q1 * 131 + q2 * 1117 + (p : Int) * 29) = q1 * 131 + q2 * 1117 + (p : Int) * 29 := IntWalk.i64_in _ (by omega)
      have b4 : IntKind.i64.wrap ((d : Int) * 53) = (d : Int) * 53 := IntWalk.i64_in _ (by omega)
      obtain ⟨X, hX⟩ : ∃ X : Nat, q1 * 131 + q2 * 1117 + (p : Int) * 29 + (d : Int) * 53 = (X : Int) := ⟨(q1 * 131 + q2 * 1117 + (p : Int) * 29 + (d : Int) * 53).toNat, by omega⟩
      have hXb : X ≤ 10000000 := by omega
      have b5 : IntKind.i64.wrap (X : Int) = (X : Int) := IntWalk.i64_in _ (by omega)
      have ht4 : (X : Int).tdiv 64 = ((X / 64 : Nat) : Int) := by rw [Int.tdiv_eq_ediv_of_nonneg (by omega)]; rfl
      have hY : X / 64 ≤ X := Nat.div_le_self _ _
      obtain ⟨Y, hYe⟩ : ∃ Y, X / 64 = Y := ⟨_, rfl⟩
      rw [hYe] at ht4 hY
      have b6 : IntKind.i64.wrap (Y : Int) = (Y : Int) := IntWalk.i64_in _ (by omega)
      have hxor := i64_xor X Y (by omega) (by omega)
      obtain ⟨Z, hZ⟩ : ∃ Z, X ^^^ Y = Z := ⟨_, rfl⟩
      rw [hZ] at hxor
      obtain ⟨r, hr, hrm⟩ := HREM.out (Z : Int) (by omega)
      have b7 : IntKind.i64.wrap (r : Int) = (r : Int) := IntWalk.i64_in _ (by omega)
      have HRM := Lib.hid hrm
      clear hk1 hk2 hd hq1 hq2 hb1 hb2 hdp hXb hY hYe hZ hcx hrm hzl hz1 hz2
      go_enter Try.func80, Try.ntmps80
      go_wp2
      go_quiet (fail)
      go_wp2
      go_ret
      rw [HV.out]
      exact ⟨⟨r, rfl, HRM.out⟩, ⟨HR.out.lo, HR.out.box, ⟨HR.out.data.len, HR.out.data.fit, HR.out.data.at_, HR.out.data.byte⟩, HR.out.short⟩, ⟨HB.out.os, HB.out.tape, HB.out.output, HB.out.size, HB.out.block⟩, ⟨HG.out.os, HG.out.tape, HG.out.output, HG.out.size, HG.out.block⟩⟩

set_option maxHeartbeats 1000000 in
theorem open_any (a : Option Addr) (n cap : Nat) (zs : List Int) (w : World) (h : BsAt w.heap.size w a n cap zs) :
    Calls Try.prog 69 #[.slice a n cap] w fun e w' => ∃ n' zs', e = .returned (.pointer (some ⟨w.heap.size, 0, none⟩)) ∧ Rd w.heap.size w' w.heap.size a n' cap zs' 0 ∧ Below w.heap.size w w' := by
  have hf := h.fit
  have hl := h.len
  unfold maxLen at hf
  have hB : ∀ m : Nat, Below w.heap.size w (w.alloc (.cells #[.slice a m cap, .int .i64 0] RdT)) := fun m => (Below.refl _ w).alloc (Nat.le_refl _) _
  have hRd : ∀ (m : Nat) (ys : List Int), m ≤ 2000 → BsAt w.heap.size w a m cap ys → Rd w.heap.size (w.alloc (.cells #[.slice a m cap, .int .i64 0] RdT)) w.heap.size a m cap ys 0 := fun m ys hm hd => ⟨Nat.le_refl _, World.alloc_heap_new w _, hd.below (hB m), hm⟩
  have HRD := Lib.hid hRd
  have HBD := Lib.hid hB
  have H := Lib.hid h
  clear h hRd hB
  by_cases hn : n ≤ 2000
  · have hd : decide ((2000 : Int) < (n : Int)) = false := decide_eq_false (by omega)
    go_enter Try.func69, Try.ntmps69
    go_wp2
    go_ret
    exact ⟨n, zs, rfl, HRD.out n zs hn H.out, HBD.out n⟩
  · have hd : decide ((2000 : Int) < (n : Int)) = true := decide_eq_true (by omega)
    obtain ⟨x, rfl, hxb, hc⟩ := H.out.at_ (by omega)
    have hcap : (2000 : Int) ≤ (cap : Int) := by omega
    have hcap2 : 2000 ≤ cap := by omega
    have H2 : Hid (BsAt w.heap.size w (some x) 2000 cap (zs.take 2000)) := Lib.hid ⟨by rw [List.length_take]; omega, ⟨hcap2, H.out.fit.2⟩, fun _ => ⟨x, rfl, hxb, fun j hj => by rw [List.getElem_take]; exact hc j (by rw [List.length_take] at hj; omega)⟩, fun z hz => H.out.byte z (List.mem_of_mem_take hz)⟩
    clear hc
    go_enter Try.func69, Try.ntmps69
    go_wp2
    go_ret
    exact ⟨2000, zs.take 2000, rfl, HRD.out 2000 _ (Nat.le_refl _) H2.out, HBD.out 2000⟩

end Go.Proofs.Ytakfobihakbefaa

/- The contracts of the model's 'of', 'l91Mono' and 'DrawSeriesShuffle'. -/

namespace Go.Proofs.Ytakfobihakbefaa
open Go.RowKit Go.Shelf

def abL : List ByteArray := [{ data := #[97] }, { data := #[98] }]
theorem abL_size : ∀ s ∈ abL, s.size = 1 := by decide

end Go.Proofs.Ytakfobihakbefaa

/- The contracts of the model's sums of letters. -/

namespace Go.Proofs.Ytakfobihakbefaa
open Go.RowKit

end Go.Proofs.Ytakfobihakbefaa

/- The contracts of the model's 'l3Fox' and 'FoxOf'. -/

namespace Go.Proofs.Ytakfobihakbefaa
open Go.RowKit Go.Shelf

theorem extract_take (s : ByteArray) (k : Nat) : s.extract 0 k = bstr (s.data.toList.take k) := by
  apply bytes_ext
  rw [Lib.extract_data, bstr_toList]; simp

end Go.Proofs.Ytakfobihakbefaa

/- The contracts of the model's products and commutators of words. -/

namespace Go.Proofs.Ytakfobihakbefaa
open Go.RowKit

/-- What is told of letters. -/
def toldV (l : List UInt8) : Value := if l.length ≤ 60 then .tuple #[.string (bstr l), .bool true] else .tuple #[.string ByteArray.empty, .bool false]
theorem toldV_yes {l : List UInt8} (h : l.length ≤ 60) : toldV l = .tuple #[.string (bstr l), .bool true] := if_pos h
theorem toldV_no {l : List UInt8} (h : ¬ l.length ≤ 60) : toldV l = .tuple #[.string ByteArray.empty, .bool false] := if_neg h

theorem append_toList (a b : ByteArray) : (a ++ b).data.toList = a.data.toList ++ b.data.toList := by simp
theorem append_size (a b : ByteArray) : (a ++ b).size = a.size + b.size := by simp

/-- The letters of a commutator. -/
def commL (a b : List UInt8) : List UInt8 := a ++ b ++ backL a ++ backL b

end Go.Proofs.Ytakfobihakbefaa

/- The contracts of the model's 'l1Four', 'l1Put' and 'WordPut'. -/

namespace Go.Proofs.Ytakfobihakbefaa
open Go.RowKit

def wordsB (zs : List ByteArray) : Bool := zs.all fun s => wordB s.data.toList
/-- Are these four words? -/
def fourB (zs : List ByteArray) : Bool := wordsB zs && decide (zs.length = 4)

theorem wordsB_false (zs : List ByteArray) (k : Nat) (hk : k < zs.length) (h : wordB zs[k].data.toList = false) : wordsB zs = false :=
  List.all_eq_false.2 ⟨_, List.getElem_mem hk, by simp [h]⟩
theorem wordsB_of (zs : List ByteArray) (h : ∀ j (hj : j < zs.length), wordB zs[j].data.toList = true) : wordsB zs = true :=
  List.all_eq_true.2 fun s hs => by
    obtain ⟨j, hj, rfl⟩ := List.mem_iff_getElem.1 hs
    exact h j hj

/-- The image of a letter, and of a row of letters. -/
def imgL (zs : List ByteArray) (c : UInt8) : List UInt8 := if c.toNat < 97 then backL (zs.getD (idxB c) ByteArray.empty).data.toList else (zs.getD (idxB c) ByteArray.empty).data.toList
def putL (zs : List ByteArray) (l : List UInt8) : List UInt8 := (l.map (imgL zs)).flatten
theorem putL_snoc (zs : List ByteArray) (l : List UInt8) (c : UInt8) : putL zs (l ++ [c]) = putL zs l ++ imgL zs c := by simp [putL]
theorem imgL_len (zs : List ByteArray) (c : UInt8) (h : ∀ z ∈ zs, z.size ≤ 60) (hc : idxB c < zs.length) : (imgL zs c).length ≤ 60 := by
  have h1 : (zs.getD (idxB c) ByteArray.empty) ∈ zs := by
    rw [List.getD_eq_getElem?_getD, List.getElem?_eq_getElem hc]; exact List.getElem_mem hc
  have h2 := h _ h1
  unfold imgL
  split
  · rw [backL_length]; simpa using h2
  · simpa using h2

theorem fourB_iff (zs : List ByteArray) : fourB zs = true ↔ zs.length = 4 ∧ ∀ z ∈ zs, wordB z.data.toList = true := by
  unfold fourB wordsB
  rw [Bool.and_eq_true, List.all_eq_true, decide_eq_true_iff, and_comm]

end Go.Proofs.Ytakfobihakbefaa

/- The contracts of the model's 'SumTurned' and 'SumPut'. -/

namespace Go.Proofs.Ytakfobihakbefaa
open Go.RowKit Go.Shelf

/-- A term whose word is changed. -/
def mapT (f : List UInt8 → List UInt8) (t : Tm) : Tm := ⟨t.c, bstr (f t.s.data.toList)⟩
def fitB (ts : List Tm) : Bool := ts.all fun t => decide (t.s.size ≤ 60)
theorem fitB_at {ts : List Tm} {k : Nat} (hk : k < ts.length) (h : ¬ ts[k].s.size ≤ 60) : fitB ts = false :=
  List.all_eq_false.2 ⟨_, List.getElem_mem hk, by simpa using h⟩
theorem fitB_of {ts : List Tm} (h : ∀ j (hj : j < ts.length), ts[j].s.size ≤ 60) : fitB ts = true :=
  List.all_eq_true.2 fun t ht => by
    obtain ⟨j, hj, rfl⟩ := List.getElem_of_mem ht
    simpa using h j hj
theorem termB_word {t : Tm} (h : termB t = true) : wordB t.s.data.toList = true := by unfold termB at h; simp only [Bool.and_eq_true] at h; exact h.1

def putF (zs : List ByteArray) (l : List UInt8) : List UInt8 := redL [] (putL zs l)

end Go.Proofs.Ytakfobihakbefaa

/- The contracts of the model's 'l2Times' and 'SumTimes'. -/

namespace Go.Proofs.Ytakfobihakbefaa
open Go.RowKit Go.Shelf

/-- The product of two terms, and those of all pairs. -/
def pairT (t u : Tm) : Tm := ⟨t.c * u.c, bstr (redL [] (t.s.data.toList ++ u.s.data.toList))⟩
def pairsT (x y : List Tm) : List Tm := x.flatMap fun t => y.map (pairT t)
theorem pairs_succ (x y : List Tm) (k : Nat) (h : k < x.length) : pairsT (x.take (k + 1)) y = pairsT (x.take k) y ++ y.map (pairT x[k]) := by
  unfold pairsT
  rw [List.take_succ_eq_append_getElem h, List.flatMap_append]
  simp
theorem pairs_zero (y : List Tm) : pairsT [] y = [] := rfl
theorem pairs_len (x y : List Tm) : (pairsT x y).length = x.length * y.length := by
  unfold pairsT
  induction x with
  | nil => simp
  | cons t r ih => rw [List.flatMap_cons, List.length_append, ih, List.length_map, List.length_cons, Nat.succ_mul]; omega
theorem map_succ (f : Tm → Tm) (y : List Tm) (j : Nat) (h : j < y.length) : (y.take (j + 1)).map f = (y.take j).map f ++ [f y[j]] := by
  rw [List.take_succ_eq_append_getElem h, List.map_append]; rfl
theorem mul_bnd {a b : Int} (ha : -1000000 ≤ a ∧ a ≤ 1000000) (hb : -1000000 ≤ b ∧ b ≤ 1000000) : -1000000000000 ≤ a * b ∧ a * b ≤ 1000000000000 := by
  have h : (a * b).natAbs ≤ 1000000 * 1000000 := by
    rw [Int.natAbs_mul]
    exact Nat.mul_le_mul (by omega) (by omega)
  omega

def TimesNo (w : World) (e : Ending) (w' : World) : Prop := ∃ g n cap, e = .returned (.tuple #[.slice (some ⟨g, 0, none⟩) n cap, .bool false]) ∧ Below w.heap.size w w'
end Go.Proofs.Ytakfobihakbefaa

/- The contract of the model's 'FoxSum'. -/

namespace Go.Proofs.Ytakfobihakbefaa
open Go.RowKit Go.Shelf

theorem mul_bnd60 {a b : Int} (ha : -1000000 ≤ a ∧ a ≤ 1000000) (hb : -60 ≤ b ∧ b ≤ 60) : -60000000 ≤ a * b ∧ a * b ≤ 60000000 := by
  have h : (a * b).natAbs ≤ 1000000 * 60 := by
    rw [Int.natAbs_mul]
    exact Nat.mul_le_mul (by omega) (by omega)
  omega
theorem scale_succ (c : Int) (ds acc : List Tm) (j : Nat) (h : j < ds.length) : (scaleT c (ds.take (j + 1))).foldl addT acc = addT ((scaleT c (ds.take j)).foldl addT acc) ⟨c * ds[j].c, ds[j].s⟩ := by
  unfold scaleT
  rw [List.take_succ_eq_append_getElem h, List.map_append, List.foldl_append]; rfl

/-- What FoxSum answers. -/
def foxSumB (x : List Tm) (g : Int) : Bool := sumB x && (inR 0 3 g && twB (canonT (foxI g x)))

theorem foxSumB_tw {x : List Tm} {g : Int} {b : Bool} (h : foxSumB x g = b) : b = true → twB (canonT (foxI g x)) = true := by
  intro hb
  subst hb
  unfold foxSumB at h
  simp only [Bool.and_eq_true] at h
  exact h.2.2
end Go.Proofs.Ytakfobihakbefaa

/- The contracts of the model's 'l4Times', 'l4Done' and 'SeriesTimes'. -/

namespace Go.Proofs.Ytakfobihakbefaa
open Go.RowKit Go.Shelf

/-- The product of two terms whose words are put one behind the other; those of all pairs that are not too long. -/
def pairS (t u : Tm) : Tm := ⟨t.c * u.c, t.s ++ u.s⟩
def short (t : Tm) : Bool := decide (t.s.size ≤ 4)
def pairsS (x y : List Tm) : List Tm := x.flatMap fun t => (y.map (pairS t)).filter short
theorem pairsS_succ (x y : List Tm) (k : Nat) (h : k < x.length) : pairsS (x.take (k + 1)) y = pairsS (x.take k) y ++ (y.map (pairS x[k])).filter short := by
  unfold pairsS
  rw [List.take_succ_eq_append_getElem h, List.flatMap_append]
  simp
def rowS (t : Tm) (y : List Tm) : List Tm := (y.map (pairS t)).filter short
theorem rowS_succ (t : Tm) (y : List Tm) (j : Nat) (h : j < y.length) : rowS t (y.take (j + 1)) = rowS t (y.take j) ++ (if (t.s ++ y[j].s).size ≤ 4 then [pairS t y[j]] else []) := by
  unfold rowS
  rw [map_succ (pairS t) y j h, List.filter_append, List.filter_cons, List.filter_nil]
  congr 1
  by_cases hs : (t.s ++ y[j].s).size ≤ 4
  · rw [if_pos (show short (pairS t y[j]) = true from decide_eq_true hs), if_pos hs]
  · rw [if_neg (show ¬ short (pairS t y[j]) = true by unfold short pairS; simpa using hs), if_neg hs]

/-- What fits into the products of series. -/
def SerL (x : List Tm) : Prop := x.length ≤ 400 ∧ ∀ t ∈ x, t.s.size ≤ 4 ∧ -1000000 ≤ t.c ∧ t.c ≤ 1000000

theorem serB_is (ts : List Tm) : serB ts = ((List.range ts.length).all (serAt ts) && decide (ts.length ≤ 400)) := rfl
theorem serB_parts {ts : List Tm} (h : serB ts = true) : ts.length ≤ 400 ∧ (∀ t ∈ ts, t.c ≠ 0 ∧ (-1000000 ≤ t.c ∧ t.c ≤ 1000000) ∧ monoB t.s = true) ∧ Canon ts := by
  rw [serB_is] at h
  simp only [Bool.and_eq_true, decide_eq_true_eq] at h
  obtain ⟨h1, h2⟩ := h
  have hat : ∀ j (hj : j < ts.length), ts[j].c ≠ 0 ∧ (-1000000 ≤ ts[j].c ∧ ts[j].c ≤ 1000000) ∧ monoB ts[j].s = true ∧ (j = 0 ∨ lessW (ts.getD (j - 1) default).s (ts.getD j default).s = true) := fun j hj => by
    have h3 := List.all_eq_true.1 h1 j (List.mem_range.2 hj)
    have hg : ts.getD j default = ts[j] := by rw [List.getD_eq_getElem?_getD, List.getElem?_eq_getElem hj]; rfl
    unfold serAt inR at h3
    simp only [Bool.and_eq_true, bne_iff_ne, ne_eq, Bool.or_eq_true, decide_eq_true_eq] at h3
    rw [hg] at h3 ⊢
    exact ⟨h3.1.1.1, h3.1.1.2, h3.1.2, h3.2⟩
  refine ⟨h2, fun t ht => ?_, pairwise_lessW fun k hk hk0 => ?_, fun t ht => ?_⟩
  · obtain ⟨j, hj, rfl⟩ := List.getElem_of_mem ht
    exact ⟨(hat j hj).1, (hat j hj).2.1, (hat j hj).2.2.1⟩
  · rcases (hat k hk).2.2.2 with h | h
    · omega
    · exact h
  · obtain ⟨j, hj, rfl⟩ := List.getElem_of_mem ht
    exact (hat j hj).1
theorem mono_size {s : ByteArray} (h : monoB s = true) : s.size ≤ 4 := by
  unfold monoB at h
  simp only [Bool.and_eq_true, decide_eq_true_eq] at h
  exact h.2
theorem serL_of {ts : List Tm} (h : serB ts = true) : SerL ts := by
  obtain ⟨h1, h2, _⟩ := serB_parts h
  exact ⟨h1, fun t ht => ⟨mono_size (h2 t ht).2.2, (h2 t ht).2.1⟩⟩
/-- For canonical lists only the terms have to be looked at. -/
def twS (ts : List Tm) : Bool := decide (ts.length ≤ 400) && ts.all fun t => inR (-1000000) 1000000 t.c && monoB t.s
theorem serB_canon {ts : List Tm} (h : Canon ts) : serB ts = twS ts := by
  rw [serB_is, Bool.and_comm]
  unfold twS
  congr 1
  have hg : ∀ j (h : j < ts.length), ts.getD j default = ts[j] := fun j h => by rw [List.getD_eq_getElem?_getD, List.getElem?_eq_getElem h]; rfl
  rw [Bool.eq_iff_iff]
  simp only [List.all_eq_true, List.mem_range]
  constructor
  · intro h1 t ht
    obtain ⟨j, hj, rfl⟩ := List.getElem_of_mem ht
    have h3 := h1 j hj
    unfold serAt at h3
    rw [hg j hj] at h3
    simp only [Bool.and_eq_true] at h3 ⊢
    exact ⟨h3.1.1.2, h3.1.2⟩
  · intro h1 j hj
    have h3 := h1 _ (List.getElem_mem hj)
    simp only [Bool.and_eq_true] at h3
    unfold serAt
    rw [hg j hj, h3.1, h3.2]
    have h4 : (ts[j].c != 0) = true := by simpa using h.2 _ (List.getElem_mem hj)
    rw [h4]
    by_cases hj0 : j = 0
    · simp [hj0]
    · have h5 := List.pairwise_iff_getElem.1 h.1 (j - 1) j (by omega) hj (by omega)
      rw [hg (j - 1) (by omega), h5]
      simp
theorem twS_parts {ts : List Tm} (h : twS ts = true) : ts.length ≤ 400 ∧ ∀ t ∈ ts, (-1000000 ≤ t.c ∧ t.c ≤ 1000000) ∧ monoB t.s = true := by
  unfold twS inR at h
  simp only [Bool.and_eq_true, decide_eq_true_eq, List.all_eq_true] at h
  exact h
theorem told_smallS {b : Bool} {L us : List Tm} (h : b = true → twS L = true) (hus : cond b L [] = us) : SmallT us ∧ us.length ≤ 400 := by
  cases b with
  | false => subst hus; exact ⟨⟨Nat.zero_le _, fun t h => by cases h⟩, Nat.zero_le _⟩
  | true =>
    have hus : L = us := hus
    subst hus
    obtain ⟨h1, h2⟩ := twS_parts (h rfl)
    exact ⟨⟨by unfold maxLen; omega, fun t ht => by have := h2 t ht; have := mono_size this.2; unfold maxLen; omega⟩, h1⟩
/-- What SeriesTimes answers. -/
def serProdB (x y : List Tm) : Bool := serB x && (serB y && twS (canonT (pairsS x y)))
theorem serProdB_tw {x y : List Tm} {b : Bool} (h : serProdB x y = b) : b = true → twS (canonT (pairsS x y)) = true := by
  intro hb
  subst hb
  unfold serProdB at h
  simp only [Bool.and_eq_true] at h
  exact h.2.2

end Go.Proofs.Ytakfobihakbefaa

/- How great the coefficients of the series of a word get, and how many terms it has. -/

namespace Go.Proofs.Ytakfobihakbefaa
open Go.RowKit

/-- The sum of the sizes of the coefficients of degree d; of those up to degree d. -/
def nrm (d : Nat) : List Tm → Nat
  | [] => 0
  | t :: r => (if t.s.size = d then t.c.natAbs else 0) + nrm d r
def cum (d : Nat) : List Tm → Nat
  | [] => 0
  | t :: r => (if t.s.size ≤ d then t.c.natAbs else 0) + cum d r
theorem nrm_append (d : Nat) (a b : List Tm) : nrm d (a ++ b) = nrm d a + nrm d b := by
  induction a with
  | nil => simp [nrm]
  | cons t r ih => rw [List.cons_append, nrm, nrm, ih]; omega
theorem nrm_nz (d : Nat) (t : Tm) : nrm d (nz t) = if t.s.size = d then t.c.natAbs else 0 := by
  unfold nz
  by_cases h : t.c = 0
  · rw [if_pos h, h]; simp [nrm]
  · rw [if_neg h]; simp [nrm]
theorem nrm_add (d : Nat) (t : Tm) : ∀ ts, nrm d (addT ts t) ≤ nrm d ts + if t.s.size = d then t.c.natAbs else 0
  | [] => by rw [addT, nrm_nz, nrm]; omega
  | x :: r => by
    rw [addT]
    by_cases h : lessW x.s t.s = true
    · rw [if_pos h, nrm, nrm]
      have := nrm_add d t r
      omega
    · rw [if_neg h]
      by_cases h2 : x.s = t.s
      · rw [if_pos h2, nrm_append, nrm_nz, nrm, h2]
        by_cases h3 : t.s.size = d
        · simp only [h3, if_true]; omega
        · simp only [h3, if_false]; omega
      · rw [if_neg h2, nrm_append, nrm_nz]; omega
theorem nrm_fold (d : Nat) : ∀ (ts acc : List Tm), nrm d (ts.foldl addT acc) ≤ nrm d acc + nrm d ts
  | [], acc => by simp [nrm]
  | t :: r, acc => by
    have h1 := nrm_fold d r (addT acc t)
    have h2 := nrm_add d t acc
    rw [List.foldl_cons, nrm]
    omega
theorem nrm_canon (d : Nat) (ts : List Tm) : nrm d (canonT ts) ≤ nrm d ts := by
  have h := nrm_fold d ts []
  rw [show nrm d [] = 0 from rfl, Nat.zero_add] at h
  exact h
theorem cum_zero : ∀ ts, cum 0 ts = nrm 0 ts
  | [] => rfl
  | t :: r => by rw [cum, nrm, cum_zero r]; simp only [Nat.le_zero_eq]
theorem cum_succ (d : Nat) : ∀ ts, cum (d + 1) ts = cum d ts + nrm (d + 1) ts
  | [] => rfl
  | t :: r => by
    rw [cum, cum, nrm, cum_succ d r]
    by_cases h : t.s.size ≤ d
    · rw [if_pos (by omega), if_pos h, if_neg (by omega)]; omega
    · by_cases h2 : t.s.size = d + 1
      · rw [if_pos (by omega), if_neg h, if_pos h2]; omega
      · rw [if_neg (by omega), if_neg h, if_neg h2]; omega
theorem cum_le (d : Nat) : ∀ {ts : List Tm} {t : Tm}, t ∈ ts → t.s.size ≤ d → t.c.natAbs ≤ cum d ts
  | u :: r, t, h, hd => by
    rw [cum]
    rcases List.mem_cons.1 h with rfl | h
    · rw [if_pos hd]; omega
    · have := cum_le d h hd; omega
theorem nrm_row (d : Nat) (t : Tm) {y : List Tm} (hy : ∀ e, nrm e y ≤ 1) : nrm d (rowS t y) ≤ if t.s.size ≤ d then t.c.natAbs else 0 := by
  have key : ∀ z : List Tm, nrm d (rowS t z) ≤ if t.s.size ≤ d then t.c.natAbs * nrm (d - t.s.size) z else 0 := by
    intro z
    induction z with
    | nil => simp [rowS, nrm]
    | cons u r ih =>
      have e : rowS t (u :: r) = (if short (pairS t u) = true then [pairS t u] else []) ++ rowS t r := by
        unfold rowS
        rw [List.map_cons, List.filter_cons]
        split <;> simp
      have h1 : nrm d (if short (pairS t u) = true then [pairS t u] else []) ≤ if t.s.size + u.s.size = d then t.c.natAbs * u.c.natAbs else 0 := by
        have hs : (pairS t u).s.size = t.s.size + u.s.size := by unfold pairS; exact ByteArray.size_append
        split
        · rw [nrm, nrm, hs]
          split
          · unfold pairS; rw [Int.natAbs_mul]; omega
          · omega
        · simp [nrm]
      rw [e, nrm_append, nrm]
      by_cases h : t.s.size ≤ d
      · rw [if_pos h] at ih ⊢
        rw [Nat.mul_add]
        have h2 : (if t.s.size + u.s.size = d then t.c.natAbs * u.c.natAbs else 0) ≤ t.c.natAbs * (if u.s.size = d - t.s.size then u.c.natAbs else 0) := by
          by_cases h3 : t.s.size + u.s.size = d
          · rw [if_pos h3, if_pos (by omega)]; exact Nat.le_refl _
          · rw [if_neg h3]; exact Nat.zero_le _
        omega
      · rw [if_neg h] at ih ⊢
        have h3 : ¬ t.s.size + u.s.size = d := by omega
        rw [if_neg h3] at h1
        omega
  have h := key y
  by_cases hd : t.s.size ≤ d
  · rw [if_pos hd] at h ⊢
    have := Nat.mul_le_mul_left t.c.natAbs (hy (d - t.s.size))
    omega
  · rw [if_neg hd] at h ⊢; exact h
theorem nrm_pairs (d : Nat) {y : List Tm} (hy : ∀ e, nrm e y ≤ 1) : ∀ x, nrm d (pairsS x y) ≤ cum d x
  | [] => by simp [pairsS, nrm]
  | t :: r => by
    have h1 := nrm_pairs d hy r
    have h2 := nrm_row d t hy
    have e : pairsS (t :: r) y = rowS t y ++ pairsS r y := by unfold pairsS rowS; rw [List.flatMap_cons]
    rw [e, nrm_append, cum]
    omega

/-- How many ways there are to choose: of degree 0 to 4. -/
def stepW (p : Nat × Nat × Nat × Nat × Nat) : Nat × Nat × Nat × Nat × Nat := (p.1, p.1 + p.2.1, p.1 + p.2.1 + p.2.2.1, p.1 + p.2.1 + p.2.2.1 + p.2.2.2.1, p.1 + p.2.1 + p.2.2.1 + p.2.2.2.1 + p.2.2.2.2)
def waysT : Nat → Nat × Nat × Nat × Nat × Nat
  | 0 => (1, 1, 1, 1, 1)
  | k + 1 => stepW (waysT k)
theorem ways_le {k n : Nat} (h : k ≤ n) : (waysT k).2.2.2.2 ≤ (waysT n).2.2.2.2 := by
  induction h with
  | refl => exact Nat.le_refl _
  | step _ ih => exact Nat.le_trans ih (by rw [waysT, stepW]; simp only []; omega)
theorem ways_max : (waysT 60).2.2.2.2 = 635376 := by decide +kernel
def WaysIn (k : Nat) (x : List Tm) : Prop := cum 0 x ≤ (waysT k).1 ∧ cum 1 x ≤ (waysT k).2.1 ∧ cum 2 x ≤ (waysT k).2.2.1 ∧ cum 3 x ≤ (waysT k).2.2.2.1 ∧ cum 4 x ≤ (waysT k).2.2.2.2
theorem ways_step {k : Nat} {x y : List Tm} (hy : ∀ e, nrm e y ≤ 1) (h : WaysIn k x) : WaysIn (k + 1) (canonT (pairsS x y)) := by
  obtain ⟨h0, h1, h2, h3, h4⟩ := h
  have hn : ∀ d, nrm d (canonT (pairsS x y)) ≤ cum d x := fun d => Nat.le_trans (nrm_canon d _) (nrm_pairs d hy x)
  have n0 := hn 0
  have n1 := hn 1
  have n2 := hn 2
  have n3 := hn 3
  have n4 := hn 4
  have e0 := cum_zero (canonT (pairsS x y))
  have e1 := cum_succ 0 (canonT (pairsS x y))
  have e2 := cum_succ 1 (canonT (pairsS x y))
  have e3 := cum_succ 2 (canonT (pairsS x y))
  have e4 := cum_succ 3 (canonT (pairsS x y))
  simp only [Nat.zero_add, Nat.reduceAdd] at e1 e2 e3 e4
  unfold WaysIn
  rw [waysT, stepW]
  simp only []
  omega
theorem ways_coef {k : Nat} {x : List Tm} (h : WaysIn k x) (hk : k ≤ 60) {t : Tm} (ht : t ∈ x) (hs : t.s.size ≤ 4) : -1000000 ≤ t.c ∧ t.c ≤ 1000000 := by
  have h1 := cum_le 4 ht hs
  have h2 := h.2.2.2.2
  have h3 := ways_le hk
  rw [ways_max] at h3
  omega

/-! ### How many terms -/
theorem nodup_len {α : Type} [BEq α] [LawfulBEq α] : ∀ (l m : List α), l.Nodup → (∀ x ∈ l, x ∈ m) → l.length ≤ m.length
  | [], _, _, _ => Nat.zero_le _
  | x :: r, m, h, hs => by
    obtain ⟨h1, h2⟩ := List.nodup_cons.1 h
    have hx := hs x (by simp)
    have := nodup_len r (m.erase x) h2 fun y hy => (List.mem_erase_of_ne (fun e => h1 (by rw [← e]; exact hy))).2 (hs y (by simp [hy]))
    rw [List.length_erase_of_mem hx] at this
    have : 0 < m.length := List.length_pos_of_mem hx
    rw [List.length_cons]; omega
def monosN : Nat → List (List UInt8)
  | 0 => [[]]
  | n + 1 => (monosN n).flatMap fun l => [97 :: l, 98 :: l, 99 :: l, 100 :: l]
theorem mem_monos : ∀ (l : List UInt8), l.all genB = true → l ∈ monosN l.length
  | [], _ => by simp [monosN]
  | c :: r, h => by
    rw [List.all_cons, Bool.and_eq_true] at h
    obtain ⟨hc, hr⟩ := h
    have ih := mem_monos r hr
    have h4 : c = 97 ∨ c = 98 ∨ c = 99 ∨ c = 100 := by
      unfold genB at hc
      simp only [Bool.and_eq_true, decide_eq_true_eq] at hc
      have : c.toNat = 97 ∨ c.toNat = 98 ∨ c.toNat = 99 ∨ c.toNat = 100 := by omega
      rcases this with h | h | h | h
      · exact .inl (UInt8.toNat_inj.1 h)
      · exact .inr (.inl (UInt8.toNat_inj.1 h))
      · exact .inr (.inr (.inl (UInt8.toNat_inj.1 h)))
      · exact .inr (.inr (.inr (UInt8.toNat_inj.1 h)))
    rw [List.length_cons, monosN]
    refine List.mem_flatMap.2 ⟨r, ih, ?_⟩
    rcases h4 with rfl | rfl | rfl | rfl <;> simp
def monosAll : List (List UInt8) := (List.range 5).flatMap monosN
theorem monosAll_len : monosAll.length = 341 := by decide +kernel
theorem mono_mem {s : ByteArray} (h : monoB s = true) : s.data.toList ∈ monosAll := by
  unfold monoB at h
  simp only [Bool.and_eq_true, decide_eq_true_eq] at h
  have hl : s.data.toList.length ≤ 4 := by simpa using h.2
  exact List.mem_flatMap.2 ⟨_, List.mem_range.2 (by omega), mem_monos _ h.1⟩
theorem canon_len341 {ts : List Tm} (hc : Canon ts) (h : ∀ t ∈ ts, monoB t.s = true) : ts.length ≤ 341 := by
  have := nodup_len (ts.map fun t => t.s.data.toList) monosAll (by
    rw [List.nodup_iff_pairwise_ne, List.pairwise_map]
    exact hc.1.imp fun hl e => lessW_ne hl (bytes_ext e)) (fun l hl => by
    obtain ⟨t, ht, rfl⟩ := List.mem_map.1 hl
    exact mono_mem (h t ht))
  rwa [List.length_map, monosAll_len] at this
theorem mono_append {a b : ByteArray} (ha : monoB a = true) (hb : monoB b = true) (h : (a ++ b).size ≤ 4) : monoB (a ++ b) = true := by
  unfold monoB at *
  simp only [Bool.and_eq_true, decide_eq_true_eq] at *
  refine ⟨?_, h⟩
  rw [append_toList, List.all_append, ha.1, hb.1]; rfl
theorem pairsS_mono {x y : List Tm} (hx : ∀ t ∈ x, monoB t.s = true) (hy : ∀ t ∈ y, monoB t.s = true) : ∀ t ∈ pairsS x y, monoB t.s = true := fun t ht => by
  obtain ⟨u, hu, ht⟩ := List.mem_flatMap.1 ht
  obtain ⟨h1, h2⟩ := List.mem_filter.1 ht
  obtain ⟨v, hv, rfl⟩ := List.mem_map.1 h1
  exact mono_append (hx u hu) (hy v hv) (of_decide_eq_true h2)

end Go.Proofs.Ytakfobihakbefaa

/- The contracts of the model's powers of words. -/

namespace Go.Proofs.Ytakfobihakbefaa
open Go.RowKit

theorem l6In_same (k lo hi : Int) (b : Bool) (w : World) (h : (decide (lo ≤ k) && decide (k ≤ hi)) = b) :
    Calls Try.prog 84 #[.int .i64 k, .int .i64 lo, .int .i64 hi] w fun e w' => e = .returned (.bool b) ∧ w = w' := by
  by_cases h1 : lo ≤ k
  · by_cases h2 : k ≤ hi
    · have H : Hid (b = true) := Lib.hid (by rw [← h, decide_eq_true h1, decide_eq_true h2]; rfl)
      clear h
      go_enter Try.func84, Try.ntmps84
      go_wp2
      go_ret
      exact ⟨ret_bool H.out.symm, rfl⟩
    · have H : Hid (b = false) := Lib.hid (by rw [← h, decide_eq_false h2, Bool.and_false])
      clear h
      have h3 : hi < k := by omega
      go_enter Try.func84, Try.ntmps84
      go_wp2
      go_ret
      exact ⟨ret_bool H.out.symm, rfl⟩
  · have H : Hid (b = false) := Lib.hid (by rw [← h, decide_eq_false h1]; rfl)
    clear h
    have h3 : k < lo := by omega
    go_enter Try.func84, Try.ntmps84
    go_wp2
    go_ret
    exact ⟨ret_bool H.out.symm, rfl⟩

end Go.Proofs.Ytakfobihakbefaa

/- The contracts of slices.Grow and slices.Concat at terms. -/

namespace Go.Proofs.Ytakfobihakbefaa
open Go.RowKit Go.Shelf

theorem ownsRow_low {W : World} {base : Nat} {e : TypeId} {size : Nat} {v : Value} {n : Nat} {xs : List Value} (h : W.ownsRow base e size v n xs) : ∀ j, v.ownBlock = some j → base ≤ j := fun j ej => (h.lt j ej).1

/-- A slice of terms that may be nil. -/
def PartT (w : World) (v : Value) (ts : List Tm) : Prop := (v = .slice none 0 0 ∧ ts = []) ∨ ∃ x cap, v = .slice (some x) ts.length cap ∧ ∀ j u, (termsV ts)[j]? = some u → w.cell? (x.add j) = some u ∧ x.block < w.heap.size
theorem PartT.below {w w' : World} {v : Value} {ts : List Tm} (h : PartT w v ts) (hb : Below w.heap.size w w') : PartT w' v ts := by
  rcases h with h | ⟨x, cap, e, h⟩
  · exact .inl h
  · exact .inr ⟨x, cap, e, fun j u hu => by
      obtain ⟨h1, h2⟩ := h j u hu
      exact ⟨(hb.cell (p := x.add j) (by rw [addr_add_block]; exact h2)).trans h1, Nat.lt_of_lt_of_le h2 hb.size⟩⟩
theorem partT_of {w : World} {ad : Addr} {n cap : Nat} {ts : List Tm} (h : IsTerms w (some ad) n ts) : PartT w (.slice (some ad) n cap) ts := by
  refine .inr ⟨ad, cap, by rw [h.len], fun j u hu => ?_⟩
  rcases Nat.eq_zero_or_pos n with h0 | h0
  · have : ts = [] := List.length_eq_zero_iff.1 (h.len.trans h0)
    subst this
    simp [termsV] at hu
  · obtain ⟨z, e, h2⟩ := h.at_ h0
    cases e
    exact ⟨h2.cells j u hu, h2.1⟩
theorem PartT.len {w : World} {v : Value} {ts : List Tm} (h : PartT w v ts) : ∃ a cap, v = .slice a ts.length cap := by
  rcases h with ⟨rfl, rfl⟩ | ⟨x, cap, e, _⟩
  · exact ⟨_, _, rfl⟩
  · exact ⟨_, _, e⟩

def lens (ps : List (Value × List Tm)) : Nat := (ps.map fun p => p.2.length).sum
def flatT (ps : List (Value × List Tm)) : List Tm := (ps.map Prod.snd).flatten
theorem lens_succ (ps : List (Value × List Tm)) (k : Nat) (h : k < ps.length) : lens (ps.take (k + 1)) = lens (ps.take k) + ps[k].2.length := by
  unfold lens
  rw [List.take_succ_eq_append_getElem h, List.map_append, List.sum_append]; simp
theorem flatT_succ (ps : List (Value × List Tm)) (k : Nat) (h : k < ps.length) : flatT (ps.take (k + 1)) = flatT (ps.take k) ++ ps[k].2 := by
  unfold flatT
  rw [List.take_succ_eq_append_getElem h, List.map_append, List.flatten_append]; simp
theorem flatT_len (ps : List (Value × List Tm)) : (flatT ps).length = lens ps := by
  unfold flatT lens
  rw [List.length_flatten, List.map_map]; rfl
theorem lens_take (ps : List (Value × List Tm)) (k : Nat) : lens (ps.take k) ≤ lens ps := by
  have h : lens ps = lens (ps.take k) + lens (ps.drop k) := by
    conv => lhs; rw [← List.take_append_drop k ps]
    unfold lens
    rw [List.map_append, List.sum_append]
  omega

end Go.Proofs.Ytakfobihakbefaa

/- The contracts of the model's 'l4Letter' and 'SeriesOf'. -/

namespace Go.Proofs.Ytakfobihakbefaa
open Go.RowKit Go.Shelf

def letX (c : UInt8) : List UInt8 := [UInt8.ofNat (97 + idxB c)]
/-- The sign of a power of an inverse letter. -/
def altZ (i : Nat) : Int := if i % 2 = 0 then 1 else -1
def powT (c : UInt8) (i : Nat) : Tm := ⟨altZ i, bstr (repL i (letX c))⟩
/-- The series of a letter. -/
def letS (c : UInt8) : List Tm := if 97 ≤ c.toNat then [⟨1, { data := #[] }⟩, ⟨1, bstr (letX c)⟩] else (List.range 5).map (powT c)
theorem let_cases {P : UInt8 → Prop} (h : ∀ n : Fin 8, P (UInt8.ofNat (if n.val < 4 then 97 + n.val else 61 + n.val))) {c : UInt8} (hc : letB c = true) : P c := by
  have h2 := (letB_iff c).1 hc
  have : ∃ n : Fin 8, c = UInt8.ofNat (if n.val < 4 then 97 + n.val else 61 + n.val) := by
    rcases h2 with h2 | h2
    · exact ⟨⟨c.toNat - 97, by omega⟩, UInt8.toNat_inj.1 (by rw [if_pos (by show c.toNat - 97 < 4; omega)]; rw [UInt8.toNat_ofNat', Nat.mod_eq_of_lt (by show 97 + (c.toNat - 97) < _; omega)]; show c.toNat = 97 + (c.toNat - 97); omega)⟩
    · exact ⟨⟨c.toNat - 61, by omega⟩, UInt8.toNat_inj.1 (by rw [if_neg (by show ¬ c.toNat - 61 < 4; omega)]; rw [UInt8.toNat_ofNat', Nat.mod_eq_of_lt (by show 61 + (c.toNat - 61) < _; omega)]; show c.toNat = 61 + (c.toNat - 61); omega)⟩
  obtain ⟨n, rfl⟩ := this
  exact h n
theorem letS_facts : ∀ n : Fin 8, (letS (UInt8.ofNat (if n.val < 4 then 97 + n.val else 61 + n.val))).all (fun t => monoB t.s && (inR (-1) 1 t.c)) = true ∧ (letS (UInt8.ofNat (if n.val < 4 then 97 + n.val else 61 + n.val))).length ≤ 5 ∧
    (List.range 5).all (fun e => decide (nrm e (letS (UInt8.ofNat (if n.val < 4 then 97 + n.val else 61 + n.val))) ≤ 1)) = true := by decide +kernel
theorem nrm_far {d : Nat} : ∀ {ts : List Tm}, (∀ t ∈ ts, t.s.size ≠ d) → nrm d ts = 0
  | [], _ => rfl
  | t :: r, h => by rw [nrm, if_neg (h t (by simp)), nrm_far fun u hu => h u (by simp [hu])]
theorem letS_ok {c : UInt8} (hc : letB c = true) : (∀ t ∈ letS c, monoB t.s = true ∧ -1 ≤ t.c ∧ t.c ≤ 1) ∧ (letS c).length ≤ 5 ∧ ∀ e, nrm e (letS c) ≤ 1 := by
  obtain ⟨h1, h2, h3⟩ := let_cases (P := fun c => (letS c).all (fun t => monoB t.s && (inR (-1) 1 t.c)) = true ∧ (letS c).length ≤ 5 ∧ (List.range 5).all (fun e => decide (nrm e (letS c) ≤ 1)) = true) letS_facts hc
  have h4 : ∀ t ∈ letS c, monoB t.s = true ∧ -1 ≤ t.c ∧ t.c ≤ 1 := fun t ht => by
    have := List.all_eq_true.1 h1 t ht
    unfold inR at this
    simp only [Bool.and_eq_true, decide_eq_true_eq] at this
    exact this
  refine ⟨h4, h2, fun e => ?_⟩
  by_cases he : e < 5
  · exact of_decide_eq_true (List.all_eq_true.1 h3 e (List.mem_range.2 he))
  · rw [nrm_far fun t ht => by have := mono_size (h4 t ht).1; omega]; omega
theorem letS_ser {c : UInt8} (hc : letB c = true) : SerL (letS c) := by
  obtain ⟨h1, h2, _⟩ := letS_ok hc
  exact ⟨by omega, fun t ht => by have := h1 t ht; have := mono_size this.1; omega⟩

/-- The series of a word. -/
def oneT : List Tm := [⟨1, { data := #[] }⟩]
def serW (l : List UInt8) : List Tm := l.foldl (fun out c => canonT (pairsS out (letS c))) oneT
theorem serW_snoc (l : List UInt8) (c : UInt8) : serW (l ++ [c]) = canonT (pairsS (serW l) (letS c)) := by unfold serW; rw [List.foldl_append]; rfl
structure SerOK (k : Nat) (x : List Tm) : Prop where
  ways : WaysIn k x
  canon : Canon x
  mono : ∀ t ∈ x, monoB t.s = true
theorem serOK_one : SerOK 0 oneT :=
  ⟨by unfold WaysIn; decide, ⟨by simp [oneT], fun t ht => by rw [List.mem_singleton.1 ht]; exact Int.one_ne_zero⟩, fun t ht => by rw [List.mem_singleton.1 ht]; decide⟩
theorem SerOK.step {k : Nat} {x : List Tm} {c : UInt8} (h : SerOK k x) (hc : letB c = true) : SerOK (k + 1) (canonT (pairsS x (letS c))) :=
  ⟨ways_step (letS_ok hc).2.2 h.ways, canon_of _, fun t ht => by
    obtain ⟨v, hv, e⟩ := canon_words ht
    rw [← e]
    exact pairsS_mono h.mono (fun u hu => ((letS_ok hc).1 u hu).1) v hv⟩
theorem SerOK.ser {k : Nat} {x : List Tm} (h : SerOK k x) (hk : k ≤ 60) : SerL x :=
  ⟨by have := canon_len341 h.canon h.mono; omega, fun t ht => by
    have h1 := mono_size (h.mono t ht)
    exact ⟨h1, ways_coef h.ways hk ht h1⟩⟩
theorem SerOK.told {k : Nat} {x : List Tm} (h : SerOK k x) (hk : k ≤ 60) : twS x = true := by
  obtain ⟨h1, h2⟩ := h.ser hk
  unfold twS inR
  rw [decide_eq_true h1, Bool.true_and]
  refine List.all_eq_true.2 fun t ht => ?_
  have := h2 t ht
  rw [h.mono t ht, decide_eq_true this.2.1, decide_eq_true this.2.2]; rfl
theorem serW_ok : ∀ (l : List UInt8), letL l = true → SerOK l.length (serW l) := by
  intro l
  generalize hn : l.length = n
  induction n generalizing l with
  | zero => intro _; rw [List.length_eq_zero_iff.1 hn]; exact serOK_one
  | succ n ih =>
    intro hl
    obtain ⟨p, c, rfl⟩ := last_split l (by omega)
    rw [letL_append, Bool.and_eq_true] at hl
    rw [serW_snoc]
    have hp : p.length = n := by rw [List.length_append] at hn; simp at hn; exact hn
    exact (ih p hp hl.1).step (by have := hl.2; simp [letL] at this; exact this)

theorem isTerms_ser {w : World} {ad : Option Addr} {n : Nat} {x : List Tm} (h : IsTerms w ad n x) : x.length = n := h.len

theorem serL_small {x : List Tm} (h : SerL x) : SmallT x := ⟨by have := h.1; unfold maxLen; omega, fun t ht => by have := h.2 t ht; unfold maxLen; omega⟩

theorem serW_tw {s : ByteArray} {b : Bool} (h : wordB s.data.toList = b) : b = true → twS (serW s.data.toList) = true := by
  intro hb
  subst hb
  obtain ⟨h1, h2, _⟩ := (wordB_iff _).1 h
  exact (serW_ok _ h2).told h1
end Go.Proofs.Ytakfobihakbefaa

/- The contracts of the model's 'l91Word', 'l91Two' and 'DrawWordComm'. -/

namespace Go.Proofs.Ytakfobihakbefaa
open Go.RowKit Go.Shelf

theorem conv_byte (c : UInt8) (v : Int) (hv : (c.toNat : Int) = v) (V : World) : (convert 22 9 (.slice (some ⟨V.heap.size, 0, none⟩) 1 1)).run Try.prog (V.alloc (.cells #[.int .u8 v] 5)) = .ok (.string (bstr [c])) (V.alloc (.cells #[.int .u8 v] 5)) := by
  have := run_convert_bytes_back (P := Try.prog) (V.alloc (.cells #[.int .u8 v] 5)) 22 9 5 ⟨V.heap.size, 0, none⟩ 1 [c] Try.underlying22 Try.underlying5 Try.underlying9 (fun j hj => by
    have hj0 : j = 0 := by simp at hj; exact hj
    subst hj0
    show (V.alloc _).cell? ((⟨V.heap.size, 0, none⟩ : Addr).add 0) = some (.int .u8 (c.toNat : Int))
    rw [hv]
    exact cell_one_new _ _ _ 0 _ rfl)
  exact this

theorem grownAny_of_below {w w' : World} (hb : Below w.heap.size w w') (row : Option Nat) : w.grownBy w' row := ⟨hb.os, hb.tape, hb.output, hb.size, fun j hj _ => hb.block j hj⟩

end Go.Proofs.Ytakfobihakbefaa

/- The contracts of the laws' own helpers that mark memory and look the marks up. -/

namespace Go.Proofs.Ytakfobihakbefaa
open Go.RowKit Go.Shelf

/-- A term is stored: its two cells. -/
theorem set_terms (us : List Tm) (i : Nat) (t : Tm) (hi : i < us.length) : ((termsV us).set (i * 2) (.int .i64 t.c)).set (i * 2 + 1) (.string t.s) = termsV (us.set i t) := by
  have e : us = us.take i ++ us[i] :: us.drop (i + 1) := by rw [List.getElem_cons_drop]; exact (List.take_append_drop i us).symm
  have hl : (termsV (us.take i)).length = i * 2 := by rw [termsV_len, List.length_take, Nat.min_eq_left (by omega)]
  have hset : us.set i t = us.take i ++ t :: us.drop (i + 1) := by rw [List.set_eq_take_append_cons_drop, if_pos hi]
  rw [hset]
  have e2 : termsV us = termsV (us.take i) ++ .int .i64 us[i].c :: .string us[i].s :: termsV (us.drop (i + 1)) := by
    rw [← termsV_cons, ← termsV_append, ← e]
  rw [e2, termsV_append, termsV_cons, List.set_append_right _ _ (by omega), List.set_append_right _ _ (by omega), hl, Nat.sub_self, show i * 2 + 1 - i * 2 = 1 by omega]
  rfl

/-- The text of a mark. -/
def mkB (m : Nat) (t : ByteArray) : ByteArray :=
  if _h : m = 0 then t else mkB (m / 10) (⟨#[UInt8.ofNat (48 + m % 10)]⟩ ++ t)
termination_by m
decreasing_by omega
theorem mkB_zero (t : ByteArray) : mkB 0 t = t := by rw [mkB]; simp
theorem mkB_step {m : Nat} (h : m ≠ 0) (t : ByteArray) : mkB (m / 10) (⟨#[UInt8.ofNat (48 + m % 10)]⟩ ++ t) = mkB m t := by conv => rhs; rw [mkB, dif_neg h]
def mkS (k : Nat) : ByteArray := ⟨#[109]⟩ ++ mkB k ⟨#[]⟩

end Go.Proofs.Ytakfobihakbefaa

/- The contracts of the laws' 'markTermS' and 'heldTermS'. -/

namespace Go.Proofs.Ytakfobihakbefaa
open Go.RowKit Go.Shelf

def markT (k i : Nat) : Tm := ⟨((k + 2 * i : Nat) : Int), mkS (k + 2 * i + 1)⟩
/-- The marks from k on. -/
def marksT (k n : Nat) : List Tm := (List.range n).map (markT k)
theorem marksT_len (k n : Nat) : (marksT k n).length = n := by simp [marksT]
theorem marksT_get (k n i : Nat) (h : i < (marksT k n).length) : (marksT k n)[i] = markT k i := by simp [marksT]
theorem marksT_set (k j n : Nat) (us : List Tm) (hl : us.length = n) (hj : j < n) : (marksT k j ++ us.drop j).set j (markT k j) = marksT k (j + 1) ++ us.drop (j + 1) := by
  rw [List.set_append_right _ _ (by rw [marksT_len]; exact Nat.le_refl _), marksT_len, Nat.sub_self, List.drop_eq_getElem_cons (by omega : j < us.length), List.set_cons_zero]
  unfold marksT
  rw [List.range_succ, List.map_append, List.append_assoc]
  rfl

theorem ownsRow_past {w w' : World} {base : Nat} {e : TypeId} {size : Nat} {v : Value} {n : Nat} {xs : List Value} (h : w.ownsRow base e size v n xs) (hb : Below w.heap.size w w') : w'.ownsRow base e size v n xs :=
  h.kept ⟨hb.os, hb.tape, hb.output, hb.size, fun j hj _ => hb.block j hj⟩ (row := none) (by
    rcases h.2 with ⟨rfl, _⟩ | ⟨g, cap, cur, rfl, _⟩
    · exact .inl rfl
    · exact .inr (by simp [Value.ownBlock]))
theorem marksT_row (k j n : Nat) (us : List Tm) (hl : us.length = n) (hj : j < n) :
    ((termsV (marksT k j ++ us.drop j)).set (j * 2) (.int .i64 ((k + 2 * j : Nat) : Int))).set (j * 2 + 1) (.string (mkS (k + 2 * j + 1))) = termsV (marksT k (j + 1) ++ us.drop (j + 1)) := by
  rw [← marksT_set k j n us hl hj]
  exact set_terms _ j (markT k j) (by rw [List.length_append, marksT_len, List.length_drop]; omega)

theorem grown_trans {a b c : World} {row : Option Nat} (h : a.grownBy b row) (k : b.grownBy c row) : a.grownBy c row :=
  ⟨k.os.trans h.os, k.tape.trans h.tape, k.output.trans h.output, Nat.le_trans h.size k.size, fun i hi hne => (k.block i (Nat.lt_of_lt_of_le hi h.size) hne).trans (h.block i hi hne)⟩
theorem grown_refl (a : World) (row : Option Nat) : a.grownBy a row := ⟨rfl, rfl, rfl, Nat.le_refl _, fun _ _ _ => rfl⟩
theorem grown_below {a b : World} (row : Option Nat) (h : Below a.heap.size a b) : a.grownBy b row := ⟨h.os, h.tape, h.output, h.size, fun i hi _ => h.block i hi⟩
theorem mkB_size : ∀ (m : Nat) (t : ByteArray), (mkB m t).size ≤ t.size + m := by
  intro m
  induction m using Nat.strongRecOn with
  | _ m ih =>
    intro t
    by_cases h : m = 0
    · subst h; rw [mkB_zero]; exact Nat.le_refl _
    · rw [← mkB_step h]
      have h1 := ih (m / 10) (by omega) (⟨#[UInt8.ofNat (48 + m % 10)]⟩ ++ t)
      have h2 : ((⟨#[UInt8.ofNat (48 + m % 10)]⟩ : ByteArray) ++ t).size = 1 + t.size := by simp [ByteArray.size_append]; rfl
      omega
theorem mkS_size (k : Nat) : (mkS k).size ≤ k + 1 := by
  have h := mkB_size k ⟨#[]⟩
  have h0 : (⟨#[]⟩ : ByteArray).size = 0 := rfl
  have h1 : (mkS k).size = 1 + (mkB k ⟨#[]⟩).size := by unfold mkS; simp [ByteArray.size_append]; rfl
  omega
theorem marksT_small (k n : Nat) (hk : k ≤ 1000000) (hn : n ≤ 1048576) : SmallT (marksT k n) :=
  ⟨by rw [marksT_len]; unfold maxLen; omega, fun t ht => by
    unfold marksT at ht
    obtain ⟨i, hi, rfl⟩ := List.mem_map.1 ht
    have hi := List.mem_range.1 hi
    have := mkS_size (k + 2 * i + 1)
    unfold markT maxLen
    dsimp only
    omega⟩

def marksS (k n : Nat) : List ByteArray := (List.range n).map fun i => mkS (k + i)
theorem marksS_len (k n : Nat) : (marksS k n).length = n := by simp [marksS]
theorem marksS_set (k j n : Nat) (us : List ByteArray) (hl : us.length = n) (hj : j < n) : (strsV (marksS k j ++ us.drop j)).set j (.string (mkS (k + j))) = strsV (marksS k (j + 1) ++ us.drop (j + 1)) := by
  have h1 : (marksS k j ++ us.drop j).set j (mkS (k + j)) = marksS k (j + 1) ++ us.drop (j + 1) := by
    rw [List.set_append_right _ _ (by rw [marksS_len]; exact Nat.le_refl _), marksS_len, Nat.sub_self, List.drop_eq_getElem_cons (by omega : j < us.length), List.set_cons_zero]
    unfold marksS
    rw [List.range_succ, List.map_append, List.append_assoc]
    rfl
  rw [← h1]
  unfold strsV
  rw [List.map_set]
def OwnS (base : Nat) (w : World) (v : Value) (zs : List ByteArray) : Prop := w.ownsRow base 9 1 v zs.length (strsV zs)
theorem OwnS.below {base : Nat} {w w' : World} {v : Value} {zs : List ByteArray} (h : OwnS base w v zs) (hb : Below w.heap.size w w') : OwnS base w' v zs := ownsRow_past h hb

end Go.Proofs.Ytakfobihakbefaa

/- The contract of the program's 'WordSums'. -/

namespace Go.Proofs.Ytakfobihakbefaa
open Go.RowKit Go.Shelf

attribute [local go_sem] Oper.semAt_some

theorem idx_tab : ((List.range 256).all fun n => !(decide ((97 ≤ n ∧ n ≤ 100) ∨ (65 ≤ n ∧ n ≤ 68))) || (decide (bits BinOp.or IntKind.u8 (n : Int) 32 = ((if 97 ≤ n then n - 97 else n - 65 : Nat) : Int) + 97) && decide (bits BinOp.and IntKind.u8 (n : Int) 32 = if 97 ≤ n then 32 else 0))) = true := by kernel_rfl
theorem idx_let (c : UInt8) (h : letB c = true) : bits BinOp.or IntKind.u8 (c.toNat : Int) 32 = (idxB c : Int) + 97 ∧ bits BinOp.and IntKind.u8 (c.toNat : Int) 32 = if 97 ≤ c.toNat then 32 else 0 := by
  have := List.all_eq_true.1 idx_tab c.toNat (List.mem_range.2 c.toNat_lt)
  simp only [Bool.or_eq_true, Bool.and_eq_true, Bool.not_eq_true', decide_eq_false_iff_not, decide_eq_true_eq] at this
  exact this.resolve_left (fun h2 => h2 ((letB_iff c).1 h))

end Go.Proofs.Ytakfobihakbefaa

/- The contracts of the program's 'WordTimes' and 'WordComm'. -/

namespace Go.Proofs.Ytakfobihakbefaa
open Go.RowKit Go.Shelf

/-- A word in a box, and the function that gives letters out of it. -/
structure Item where
  gf : Nat
  sv : Value
  L : List UInt8
  xs : List UInt8
def funcs : Nat → List Item → List Value
  | _, [] => []
  | k, it :: r => .func (.func it.gf) #[] #[.pointer (some ⟨k, 0, none⟩)] :: funcs (k + 1) r
def partsOf : Nat → List Item → List Part
  | _, [] => []
  | k, it :: r => ⟨it.gf, #[.pointer (some ⟨k, 0, none⟩)], it.xs⟩ :: partsOf (k + 1) r
theorem partsOf_len : ∀ (its : List Item) (k : Nat), (partsOf k its).length = its.length
  | [], _ => rfl
  | it :: r, k => by simp [partsOf, partsOf_len r]
theorem funcs_get : ∀ (its : List Item) (k i : Nat) (h : i < (partsOf k its).length), (funcs k its)[i]? = some (.func (.func (partsOf k its)[i].gf) #[] (partsOf k its)[i].lb)
  | [], _, _, h => by simp [partsOf] at h
  | it :: r, k, 0, _ => rfl
  | it :: r, k, i + 1, h => by
    simp only [partsOf, List.length_cons] at h
    simpa [partsOf, funcs] using funcs_get r (k + 1) i (by omega)
theorem cat_parts : ∀ (its : List Item) (k : Nat), cat (partsOf k its) = (its.map Item.xs).flatten
  | [], _ => rfl
  | it :: r, k => by
    have := cat_parts r (k + 1)
    simp only [cat] at this ⊢
    simp only [partsOf, List.map_cons, List.flatten_cons, this]
theorem cell_past {w : World} {p : Addr} {v : Value} (h : w.cell? p = some v) (o : Obj) : (w.alloc o).cell? p = some v := (World.cell?_alloc_lt w o p (World.block_lt_of_cell? w _ h)).trans h
theorem cell_drawn {w : World} {p : Addr} {v : Value} (h : w.cell? p = some v) : w.drew.cell? p = some v := h

end Go.Proofs.Ytakfobihakbefaa

/- A law for a region that draws its order, inside a fence, by what stands when some of its operations have come up: each operation is met once, in whatever order they come. -/

namespace Go.Proofs.Ytakfobihakbefaa
open Go.RowKit Go.Shelf

theorem count_set (l : List Bool) : ∀ i, l[i]? = some false → (l.set i true).count false + 1 = l.count false := by
  induction l with
  | nil => intro i h; simp at h
  | cons b r ih =>
    intro i h
    cases i with
    | zero => simp at h; subst h; simp
    | succ i =>
      simp only [List.getElem?_cons_succ] at h
      have := ih i h
      simp only [List.set_cons_succ, List.count_cons]
      omega
theorem listed_false {l : Array Bool} {i : Nat} (h : l.getD i true = false) : l.toList[i]? = some false := by
  rw [Array.getD_eq_getD_getElem?] at h
  rw [Array.getElem?_toList]
  cases e : l[i]? with
  | none => rw [e] at h; cases h
  | some b => rw [e] at h; simp at h; rw [h]

theorem wpAnyIn_inv {F : Fence} {n : Nat} {P : Program} {md : Region.Mode} {ops : Array Oper} {Q : Exit → Act → World → Prop} (Inv : Array Bool → Act → World → Prop)
    (hstep : ∀ listed a w i, Inv listed a w → listed.getD i true = false → (∀ o, ops[i]? = some o → ∀ e ∈ o.after, Region.binds md e = true → listed.getD e.on false = true) → i < ops.size →
      wpOpIn F n P ops Q i (fun a' w' => Inv (listed.setIfInBounds i true) a' w') a w)
    (hdone : ∀ listed a w, Inv listed a w → (∀ i o, ops[i]? = some o → (∀ e ∈ o.after, Region.binds md e = true → listed.getD e.on false = true) → listed.getD i true = true) → Q .normal a w) :
    ∀ (fuel : Nat) (listed : Array Bool) (a : Act) (w : World), listed.toList.count false ≤ fuel → Inv listed a w → wpAnyIn F n P md ops Q fuel listed a w := by
  have hd : ∀ listed a w, Inv listed a w → Region.ready md ops listed = [] → Q .normal a w := fun listed a w hI hr => hdone listed a w hI fun i o ho hall => by
    cases h : listed.getD i true with
    | true => rfl
    | false =>
      have : i ∈ Region.ready md ops listed := mem_ready.2 ⟨h, o, ho, hall⟩
      rw [hr] at this; cases this
  intro fuel
  induction fuel with
  | zero =>
    intro listed a w hc hI
    have hr : Region.ready md ops listed = [] := by
      rw [List.eq_nil_iff_forall_not_mem]
      intro j hj
      have h1 := listed_false (mem_ready.1 hj).1
      have := count_set _ _ h1
      omega
    exact ⟨hr, hd _ _ _ hI hr⟩
  | succ fuel ih =>
    intro listed a w hc hI
    refine ⟨fun h => hd _ _ _ hI h, fun i hi => ?_⟩
    obtain ⟨h1, o, ho, hall⟩ := mem_ready.1 hi
    refine wpOpIn_mono (fun a' w' h => ih _ a' w' ?_ h) (hstep listed a w i hI h1 (fun o' ho' => by rw [ho] at ho'; cases ho'; exact hall) (Array.getElem?_eq_some_iff.1 ho).1)
    have := count_set _ _ (listed_false h1)
    rw [Array.toList_setIfInBounds]
    omega

end Go.Proofs.Ytakfobihakbefaa

/- What the laws' proofs stand on, part 5 of 5. -/
import Derived.Test.YtocklmiappppgaaBa
import Derived.Test.YtocklmiappppgaaBb
import Derived.Test.YtocklmiappppgaaBc
import Derived.Test.YtocklmiappppgaaBd

/- Products share sums; polynomials times 1; plain ones are alike (mathematics). -/

namespace Go.Proofs.Ytocklmiappppgaa
open Go.RowKit

theorem mulF_one {a : Pl} (h : Trim a) (k : Int) : mulF a ⟨0, [1]⟩ k = pat a k := by rw [← prod_pat, prod_one h]
theorem shares {a b : Pl} (ha : Trim a) : prodP a (sumP b 1 ⟨0, [1]⟩) = sumP (prodP a b) 1 a := trim_unique (prod_trim _ _) (sum_trim _ _ (prod_trim _ _)) fun k => by
  rw [prod_pat, mulF_sum (b := b) (c := ⟨0, [1]⟩) (n := 1) (fun k => sum_pat b 1 ⟨0, [1]⟩ k), mulF_one ha, sum_pat, prod_pat]
theorem shares_all {a b m x y : Pl} (h : timesPB a b = true) (hm : addPB b ⟨0, [1]⟩ = true) (em : addP b ⟨0, [1]⟩ = m) (hx : timesPB a m = true) (ex : timesP a m = x) (hy : addPB (timesP a b) a = true) (ey : addP (timesP a b) a = y) : x = y := by
  have e1 := (add_true hm).2.2.2.1
  have e2 := (times_true hx).2.2.2
  have e3 := (add_true hy).2.2.2.1
  have e4 := times_true h
  rw [← ex, ← ey, e2, e3, ← em, e1, e4.2.2.2]
  exact shares (polyB_trim e4.1).1
theorem poly_one_is : polyB ⟨0, [1]⟩ = true := by decide
theorem times_one {a : Pl} (h : polyB a = true) : timesPB a ⟨0, [1]⟩ = true ∧ timesP a ⟨0, [1]⟩ = a := by
  have e := prod_one (polyB_trim h).1
  have hb : timesPB a ⟨0, [1]⟩ = true := by
    unfold timesPB
    rw [h, poly_one_is, e, h]
    rfl
  exact ⟨hb, by rw [(times_true hb).2.2.2, e]⟩
theorem of_itself {l : Int} {x : List Int} (h : polyB ⟨l, x⟩ = true) : polyOfB l x = true ∧ polyOfP l x = ⟨l, x⟩ := by
  obtain ⟨hT, h1, h2, h3, _⟩ := polyB_trim h
  have e : tidyP l x = ⟨l, x⟩ := tidy_self hT
  have hb : polyOfB l x = true := by
    unfold polyOfB inR
    rw [e, h, decide_eq_true h2, decide_eq_true h3, decide_eq_true h1]
    rfl
  refine ⟨hb, ?_⟩
  unfold polyOfP
  rw [hb, e]
  rfl
theorem alike_comm (a b : Pl) : alikeB b a = alikeB a b := by
  unfold alikeB
  rw [show decide ((plainP b).cs = (plainP a).cs) = decide ((plainP a).cs = (plainP b).cs) from decide_eq_decide.2 ⟨Eq.symm, Eq.symm⟩]
  cases polyB a <;> cases polyB b <;> rfl
theorem alike_len {a b : Pl} (h : alikeB a b = true) : a.cs.length = b.cs.length := by
  unfold alikeB at h
  simp only [Bool.and_eq_true, decide_eq_true_eq] at h
  rw [← plain_len a, ← plain_len b, h.2.2]
theorem plained_true {a : Pl} (h : polyB a = true) : plainedP a = plainP a ∧ polyB (plainP a) = true ∧ plainedP (plainP a) = plainP a ∧ alikeB a (plainP a) = true := by
  have h1 := plain_polyB h
  refine ⟨by unfold plainedP; rw [h]; rfl, h1, by unfold plainedP; rw [h1, plain_plain]; rfl, ?_⟩
  unfold alikeB
  rw [h, h1, plain_plain, decide_eq_true rfl]
  rfl
theorem plain_first {a : Pl} (h : polyB a = true) (h0 : 0 < (plainP a).cs.length) : (plainP a).low = 0 ∧ 0 < (plainP a).cs.getD 0 0 := by
  rw [plain_len] at h0
  obtain ⟨z0, _⟩ := trim_nonzero (polyB_trim h).1 h0
  refine ⟨plain_low h0, ?_⟩
  rw [plain_some (by omega)]
  show 0 < (a.cs.map fun z => (if a.cs.getD 0 0 < 0 then -1 else 1) * z).getD 0 0
  rw [List.getD_eq_getElem?_getD, List.getElem?_map]
  have e : a.cs[0]? = some (a.cs.getD 0 0) := by rw [List.getD_eq_getElem?_getD, List.getElem?_eq_getElem h0]; rfl
  rw [e]
  show 0 < (if a.cs.getD 0 0 < 0 then -1 else 1) * a.cs.getD 0 0
  split <;> omega

end Go.Proofs.Ytocklmiappppgaa

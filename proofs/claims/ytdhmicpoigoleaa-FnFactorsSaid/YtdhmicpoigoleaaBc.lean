/- What the laws' proofs stand on, part 3 of 3. -/
import Derived.Test.YtdhmicpoigoleaaBa
import Derived.Test.YtdhmicpoigoleaaBb

/- Lyndon words, splits, turns and factors of texts, as the laws ask for them. -/

namespace Go.Proofs.Ytdhmicpoigoleaa
open Go.RowKit Go.Shelf

theorem lynB_both {s : ByteArray} (h : lynB s = true) : turn12 s = true ∧ text12 s = true := by
  have h0 := (lynB_size h).2
  unfold lynB at h
  rw [Bool.and_eq_true] at h
  refine ⟨?_, h.1⟩
  unfold turn12
  rw [h.1, decide_eq_false (by omega)]; rfl
theorem lynB_L {s : ByteArray} (h : lynB s = true) : lynL s.data.toList = true := by
  unfold lynB at h
  rw [Bool.and_eq_true] at h
  exact h.2
theorem list_eq {a b : ByteArray} (h : a.data.toList = b.data.toList) : a = b := bytes_ext h
theorem fact_lyn {s : ByteArray} (h : lynB s = true) : factL s = [s] := by
  have e := factF_lists 12 s
  rw [facts_one (lynB_L h)] at e
  unfold factL
  match hf : factF 12 s with
  | [] => rw [hf] at e; cases e
  | [x] =>
    rw [hf] at e
    simp only [List.map_cons, List.map_nil, List.cons.injEq, and_true] at e
    rw [list_eq e]
  | x :: y :: r => rw [hf] at e; simp at e
theorem rotB_list (s : ByteArray) (i : Nat) : (rotB s i).data.toList = rotL s.data.toList i := by
  unfold rotB rotL
  rw [ByteArray.data_append, Array.toList_append, ← ByteArray.toList_eq (s.extract i s.size), extract_drop, extract_take, bstr_toList]
theorem turnN_list (s : ByteArray) : ∀ k, (turnN s k).data.toList = turnL s.data.toList k
  | 0 => rfl
  | k + 1 => by
    rw [turnN, turnL, ByteArray.toList_eq, ByteArray.toList_eq, rotB_list, turnN_list s k]
    split
    · exact rotB_list s (k + 1)
    · exact turnN_list s k
theorem turn_self {s : ByteArray} (h : lynB s = true) : turnN s (s.size - 1) = s := by
  have h0 := (lynB_size h).2
  have hln : s.data.toList.length = s.size := by simp
  refine list_eq ?_
  rw [turnN_list, turn_lyn (lynB_L h) _ (by omega)]
theorem strs_lit (w : World) (s : ByteArray) (hs : s.size ≤ maxLen) : StrsAt (w.alloc (.cells #[.string s] 9)) (some ⟨w.heap.size, 0, none⟩) [s] :=
  ⟨fun _ => ⟨_, rfl, by simp, fun i hi => by
    have h0 : i = 0 := by simp at hi; exact hi
    subst h0
    exact (World.cell?_alloc_at _ _ _ _ (by simp)).trans (by simp)⟩, fun z hz => by rw [List.mem_singleton.1 hz]; exact hs⟩
theorem split_all {s x y : ByteArray} (hb : split12 s = true) (hx : s.extract 0 (splitI s.data.toList) = x) (hy : s.extract (splitI s.data.toList) s.size = y) :
    lynB x = true ∧ lynB y = true ∧ Op.bytesLess x.toList y.toList = true ∧ x ++ y = s ∧ x.size ≤ 12 ∧ y.size ≤ 12 := by
  unfold split12 at hb
  simp only [Bool.and_eq_true, Bool.not_eq_true', decide_eq_false_iff_not] at hb
  obtain ⟨h1, h2⟩ := hb
  have hln : s.data.toList.length = s.size := by simp
  obtain ⟨p1, p2⟩ := lynB_parts h1 (by omega)
  rw [hx] at p1
  rw [hy] at p2
  have e1 : x.data.toList = s.data.toList.take (splitI s.data.toList) := by rw [← hx, extract_take, bstr_toList]
  have e2 : y.data.toList = s.data.toList.drop (splitI s.data.toList) := by rw [← hy, ← extract_drop, ByteArray.toList_eq]
  obtain ⟨_, _, g3⟩ := splitI_lyn (lynB_L h1) (by omega)
  refine ⟨p1, p2, by rw [ByteArray.toList_eq, ByteArray.toList_eq, e1, e2]; exact g3, list_eq ?_, (lynB_size p1).1, (lynB_size p2).1⟩
  rw [ByteArray.data_append, Array.toList_append, e1, e2, List.take_append_drop]
theorem turn_all {s t x y q : ByteArray} (hb : turn12 s = true) (ht : turnN s (s.size - 1) = t) (hx : s.extract 1 s.size = x) (hy : s.extract 0 1 = y) (hq : x ++ y = q) :
    turn12 q = true ∧ turnN q (q.size - 1) = t ∧ q.size = s.size ∧ (Op.bytesLess t.toList s.toList || t.toList == s.toList) = true ∧ t.size = s.size := by
  have hln : s.data.toList.length = s.size := by simp
  have hrq : q = rotB s 1 := by rw [← hq, ← hx, ← hy]; rfl
  have hql : q.data.toList = rotL s.data.toList 1 := by rw [hrq, rotB_list]
  unfold turn12 at hb
  simp only [Bool.and_eq_true, Bool.not_eq_true', decide_eq_false_iff_not] at hb
  obtain ⟨h1, h0⟩ := hb
  have hqs : q.size = s.size := by rw [hrq]; exact rotB_size s 1 (by omega)
  have htl : t.data.toList = turnL s.data.toList (s.size - 1) := by rw [← ht, turnN_list]
  refine ⟨?_, ?_, hqs, ?_, by rw [← ht]; exact turnN_size s _ (by omega)⟩
  · unfold turn12
    rw [hqs, decide_eq_false h0]
    unfold text12 at h1 ⊢
    rw [Bool.and_eq_true, decide_eq_true_eq] at h1
    rw [hqs, hql, decide_eq_true h1.2, List.all_eq_true.2 fun c hc => ?_]; · rfl
    unfold rotL at hc
    rcases List.mem_append.1 hc with hc | hc
    · exact List.all_eq_true.1 h1.1 c (List.mem_of_mem_drop hc)
    · exact List.all_eq_true.1 h1.1 c (List.mem_of_mem_take hc)
  · refine list_eq ?_
    rw [turnN_list, htl, hql, hqs, ← hln, turn_turned (by omega)]
  · have hm := turn_min s.data.toList (s.size - 1) 0 (Nat.zero_le _)
    rw [rot_zero, ← htl] at hm
    rw [ByteArray.toList_eq, ByteArray.toList_eq]
    cases h : Op.bytesLess t.data.toList s.data.toList with
    | true => rfl
    | false => rw [bl_tri _ _ h hm]; simp

end Go.Proofs.Ytdhmicpoigoleaa

/- The factors of a text as the law walks them. -/

namespace Go.Proofs.Ytdhmicpoigoleaa
open Go.RowKit Go.Shelf

theorem factF_lynB : ∀ (f : Nat) (s : ByteArray), s.data.toList.all genB = true → s.size ≤ 12 → ∀ z ∈ factF f s, lynB z = true
  | 0, _, _, _, z, hz => by cases hz
  | f + 1, s, hg, hs, z, hz => by
    have hln : s.data.toList.length = s.size := by simp
    rw [factF] at hz
    by_cases h0 : s.size = 0
    · rw [if_pos h0] at hz; cases hz
    · rw [if_neg h0] at hz
      rcases List.mem_cons.1 hz with rfl | hz
      · have e1 : (s.extract 0 (prefN s.data.toList s.size)).data.toList = s.data.toList.take (prefN s.data.toList s.size) := by rw [extract_take, bstr_toList]
        obtain ⟨_, _, h3, _⟩ := prefN_full (l := s.data.toList) (by omega)
        rw [hln] at h3
        unfold lynB text12
        rw [e1, h3, decide_eq_true (by rw [ByteArray.size_extract]; omega), List.all_eq_true.2 fun c hc => List.all_eq_true.1 hg c (List.mem_of_mem_take hc)]
        rfl
      · refine factF_lynB f _ ?_ (by rw [ByteArray.size_extract]; omega) z hz
        have e2 : (s.extract (prefN s.data.toList s.size) s.size).data.toList = s.data.toList.drop (prefN s.data.toList s.size) := by rw [← extract_drop, ByteArray.toList_eq]
        rw [e2]
        exact List.all_eq_true.2 fun c hc => List.all_eq_true.1 hg c (List.mem_of_mem_drop hc)
/-- The first k texts behind each other. -/
def catB (zs : List ByteArray) : Nat → ByteArray
  | 0 => { data := #[] }
  | k + 1 => catB zs k ++ zs.getD k { data := #[] }
theorem catB_list (zs : List ByteArray) : ∀ k, k ≤ zs.length → (catB zs k).data.toList = ((zs.take k).map fun t => t.data.toList).flatten
  | 0, _ => rfl
  | k + 1, h => by
    rw [catB, ByteArray.data_append, Array.toList_append, catB_list zs k (by omega), List.take_succ_eq_append_getElem (by omega), List.map_append, List.flatten_append, List.getD_eq_getElem?_getD, List.getElem?_eq_getElem (by omega)]
    simp
theorem catB_all {s : ByteArray} (h : s.size ≤ 12) : catB (factL s) (factL s).length = s := by
  refine list_eq ?_
  rw [catB_list _ _ (Nat.le_refl _), List.take_length]
  unfold factL
  rw [factF_lists 12 s]
  exact facts_make 12 _ (by simpa using h)
theorem catB_size (zs : List ByteArray) (h : ∀ z ∈ zs, z.size ≤ 12) : ∀ k, k ≤ zs.length → (catB zs k).size ≤ 12 * k
  | 0, _ => Nat.le_refl _
  | k + 1, hk => by
    have h1 := catB_size zs h k (by omega)
    have h2 := h (zs[k]'(by omega)) (List.getElem_mem _)
    rw [catB, ByteArray.size_append, List.getD_eq_getElem?_getD, List.getElem?_eq_getElem (by omega)]
    show (catB zs k).size + (zs[k]'(by omega)).size ≤ _
    omega
theorem fact_all {s : ByteArray} (h : text12 s = true) : (∀ z ∈ factL s, lynB z = true ∧ z.size ≤ 12) ∧ ∀ k (hk : k + 1 < (factL s).length), (Op.bytesLess ((factL s)[k + 1]).toList ((factL s)[k]).toList || ((factL s)[k + 1]).toList == ((factL s)[k]).toList) = true := by
  unfold text12 at h
  rw [Bool.and_eq_true, decide_eq_true_eq] at h
  refine ⟨fun z hz => ?_, fun k hk => ?_⟩
  · have := factF_lynB 12 s h.1 h.2 z hz
    exact ⟨this, (lynB_size this).1⟩
  · have hln : (factsL 12 s.data.toList).length = (factL s).length := by rw [← factF_lists]; simp [factL]
    have hf := facts_fall 12 s.data.toList k (by omega)
    have e : ∀ j (hj : j < (factL s).length), (factsL 12 s.data.toList)[j]'(by omega) = ((factL s)[j]).data.toList := fun j hj => by
      simp only [← factF_lists]
      rw [List.getElem_map]; rfl
    rw [e k (by omega), e (k + 1) hk] at hf
    rw [ByteArray.toList_eq, ByteArray.toList_eq]
    cases h1 : Op.bytesLess ((factL s)[k + 1]).data.toList ((factL s)[k]).data.toList with
    | true => rfl
    | false => rw [bl_tri _ _ h1 hf]; simp
theorem fact_walk {s : ByteArray} {us : List ByteArray} (h : text12 s = true) (hu : factL s = us) : (∀ z ∈ us, lynB z = true ∧ z.size ≤ 12) ∧ (∀ k (hk : k + 1 < us.length), (Op.bytesLess (us[k + 1]).toList (us[k]).toList || (us[k + 1]).toList == (us[k]).toList) = true) ∧ catB us us.length = s := by
  subst hu
  exact ⟨(fact_all h).1, (fact_all h).2, catB_all (by unfold text12 at h; simp only [Bool.and_eq_true, decide_eq_true_eq] at h; exact h.2)⟩

end Go.Proofs.Ytdhmicpoigoleaa

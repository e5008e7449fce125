/- The contracts of the model's 'l1Four', 'l1Put' and 'WordPut'. -/
import Derived.Test.YtaaeiogdhmiaaaaSd
import Derived.Test.YtaaeiogdhmiaaaaSe
import Derived.Test.YtaaeiogdhmiaaaaJb
namespace Go.Proofs.Ytaaeiogdhmiaaaa
open Go.RowKit

def wordsB (zs : List ByteArray) : Bool := zs.all fun s => wordB s.data.toList
/-- Are these four words? -/
def fourB (zs : List ByteArray) : Bool := wordsB zs && decide (zs.length = 4)

theorem wordsB_false (zs : List ByteArray) (k : Nat) (hk : k < zs.length) (h : wordB zs[k].data.toList = false) : wordsB zs = false :=
  List.all_eq_false.2 ⟨_, List.getElem_mem hk, by simp [h]⟩
theorem wordsB_of (zs : List ByteArray) (h : ∀ j (hj : j < zs.length), wordB zs[j].data.toList = true) : wordsB zs = true :=
  List.all_eq_true.2 fun s hs => by
    obtain ⟨j, hj, rfl⟩ := List.mem_iff_getElem.1 hs
    exact h j hj

/-- The image of a letter, and of a row of letters. -/
def imgL (zs : List ByteArray) (c : UInt8) : List UInt8 := if c.toNat < 97 then backL (zs.getD (idxB c) ByteArray.empty).data.toList else (zs.getD (idxB c) ByteArray.empty).data.toList
def putL (zs : List ByteArray) (l : List UInt8) : List UInt8 := (l.map (imgL zs)).flatten
theorem putL_snoc (zs : List ByteArray) (l : List UInt8) (c : UInt8) : putL zs (l ++ [c]) = putL zs l ++ imgL zs c := by simp [putL]
theorem imgL_len (zs : List ByteArray) (c : UInt8) (h : ∀ z ∈ zs, z.size ≤ 60) (hc : idxB c < zs.length) : (imgL zs c).length ≤ 60 := by
  have h1 : (zs.getD (idxB c) ByteArray.empty) ∈ zs := by
    rw [List.getD_eq_getElem?_getD, List.getElem?_eq_getElem hc]; exact List.getElem_mem hc
  have h2 := h _ h1
  unfold imgL
  split
  · rw [backL_length]; simpa using h2
  · simpa using h2

set_option maxRecDepth 100000 in
set_option maxHeartbeats 1000000 in
theorem put_any (s : ByteArray) (a : Option Addr) (cap : Nat) (zs : List ByteArray) (w : World) (hs : s.size ≤ 60) (hl : letL s.data.toList = true) (hn : zs.length = 4) (hz : ∀ z ∈ zs, z.size ≤ 60) (hst : StrsAt w a zs) :
    Calls Try.prog 111 #[.string s, .slice a 4 cap] w fun e w' => e = .returned (.string (bstr (redL [] (putL zs s.data.toList)))) ∧ Below w.heap.size w w' := by
  obtain ⟨x, rfl, hb, hc⟩ := hst.cells (by omega)
  have HL := Lib.hid hl
  have HN := Lib.hid hn
  have HZ := Lib.hid hz
  have HC := Lib.hid hc
  clear hl hn hz hc hst
  go_enter Try.func111, Try.ntmps111
  go_wp2
  go_loopw [5, 6, 7] (fun o i q7 wr => ∃ (k : Nat) (t : ByteArray), k ≤ s.size ∧ o = .string t ∧ i = .int .i64 k ∧ t.size ≤ 60 * k ∧ Hid (t = bstr (redL [] (putL zs (s.data.toList.take k))) ∧ (putL zs (s.data.toList.take k)).length ≤ 60 * k) ∧ Below w.heap.size w wr) (fun _ i _ _ => s.size - (intOf i).toNat)
  case atStart => exact ⟨0, ByteArray.empty, Nat.zero_le _, rfl, rfl, by simp, Lib.hid ⟨rfl, by simp [putL]⟩, Below.refl _ _⟩
  case round =>
    obtain ⟨k, t, hk, rfl, rfl, htz, HT, hB⟩ := hrel
    by_cases hlt : k < s.size
    · have hl : k < s.data.toList.length := by simpa using hlt
      have hlet : letB s[k] = true := letL_get _ HL.out k hl
      have hid := idxB_lt _ hlet
      obtain ⟨z, hzz⟩ : ∃ z, zs[idxB s[k]]'(by rw [HN.out]; exact hid) = z := ⟨_, rfl⟩
      have hck : wr.cell? (x.add (idxB s[k])) = some (.string z) := by rw [← hzz]; exact (hB.cell (p := x.add (idxB s[k])) (by rw [addr_add_block]; exact hb)).trans (HC.out _ (by rw [HN.out]; exact hid))
      have hz60 : z.size ≤ 60 := by rw [← hzz]; exact HZ.out _ (List.getElem_mem _)
      have hgd : zs.getD (idxB s[k]) ByteArray.empty = z := by
        rw [List.getD_eq_getElem?_getD, List.getElem?_eq_getElem (by rw [HN.out]; exact hid)]; exact hzz
      have hpn : putL zs (s.data.toList.take (k + 1)) = putL zs (s.data.toList.take k) ++ imgL zs s[k] := by rw [take_snoc _ k hl, putL_snoc]; rfl
      have himl := imgL_len zs s[k] HZ.out (by rw [HN.out]; exact hid)
      have HP := Lib.hid hpn
      have HG := Lib.hid hgd
      have HLt := Lib.hid hlet
      have HI := Lib.hid himl
      clear hpn hgd hlet himl hzz
      by_cases hc97 : s[k].toNat < 97
      · have himg : imgL zs s[k] = backL z.data.toList := by unfold imgL; rw [if_pos hc97, HG.out]
        have HM := Lib.hid himg
        obtain ⟨bz, hbz⟩ : ∃ b, bstr (backL z.data.toList) = b := ⟨_, rfl⟩
        have hbs : bz.size ≤ 60 := by rw [← hbz, bstr_size, backL_length]; simpa using hz60
        have hbl : bz.data.toList = backL z.data.toList := by rw [← hbz, bstr_toList]
        have hbk : ∀ W, Calls Try.prog 73 #[.string z] W fun e w' => e = .returned (.string bz) ∧ Below W.heap.size W w' := fun W => by rw [← hbz]; exact back_any z W (by omega)
        have HBK := Lib.hid hbk
        have HBL := Lib.hid hbl
        clear himg hbz hbl hbk
        go_wp2_with fail
        refine (sIndex_any s[k] _ HLt.out).mono ?_
        rintro e w1 ⟨rfl, rfl⟩
        go_wp2_with fail
        refine (HBK.out _).mono ?_
        rintro e w2 ⟨rfl, hb2⟩
        go_wp2_with fail
        refine (reduce_any (t ++ bz) _ (by rw [append_size]; omega)).mono ?_
        rintro e w3 ⟨rfl, hb3⟩
        go_wp2_with fail
        go_roundw
        case rel =>
          have hlen2 : (putL zs (s.data.toList.take (k + 1))).length ≤ 60 * (k + 1) := by rw [HP.out, List.length_append]; have := HT.out.2; have := HI.out; omega
          have he : redL [] (t.data.toList ++ bz.data.toList) = redL [] (putL zs (s.data.toList.take (k + 1))) := by
            rw [HT.out.1, bstr_toList, HBL.out, red_append, HP.out, HM.out]
          refine ⟨k + 1, _, by omega, rfl, by go_num, ?_, Lib.hid ⟨by rw [he], hlen2⟩, hB.trans ((hb2.trans (hb3.mono hb2.size)).mono hB.size)⟩
          simp only [bstr_size]
          rw [he]
          exact Nat.le_trans (redL_len _ []) (by simpa using hlen2)
        case measure => simp [intOf]; omega
      · have himg : imgL zs s[k] = z.data.toList := by unfold imgL; rw [if_neg hc97, HG.out]
        have HM := Lib.hid himg
        clear himg
        go_wp2_with fail
        refine (sIndex_any s[k] _ HLt.out).mono ?_
        rintro e w1 ⟨rfl, rfl⟩
        go_wp2_with fail
        refine (reduce_any (t ++ z) _ (by rw [append_size]; omega)).mono ?_
        rintro e w3 ⟨rfl, hb3⟩
        go_wp2_with fail
        go_roundw
        case rel =>
          have hlen2 : (putL zs (s.data.toList.take (k + 1))).length ≤ 60 * (k + 1) := by rw [HP.out, List.length_append]; have := HT.out.2; have := HI.out; omega
          have he : redL [] (t.data.toList ++ z.data.toList) = redL [] (putL zs (s.data.toList.take (k + 1))) := by
            rw [HT.out.1, bstr_toList, red_append, HP.out, HM.out]
          refine ⟨k + 1, _, by omega, rfl, by go_num, ?_, Lib.hid ⟨by rw [he], hlen2⟩, hB.trans (hb3.mono hB.size)⟩
          simp only [bstr_size]
          rw [he]
          exact Nat.le_trans (redL_len _ []) (by simpa using hlen2)
        case measure => simp [intOf]; omega
    · obtain rfl : k = s.size := by omega
      go_wp2
      go_ret
      exact ⟨ret_string (by rw [HT.out.1, List.take_of_length_le (by simp)]), hB⟩

theorem put_is (r : ByteArray) (s : ByteArray) (a : Option Addr) (cap : Nat) (zs : List ByteArray) (w : World) (hs : s.size ≤ 60) (hl : letL s.data.toList = true) (hn : zs.length = 4) (hz : ∀ z ∈ zs, z.size ≤ 60) (hst : StrsAt w a zs) (h : bstr (redL [] (putL zs s.data.toList)) = r) :
    Calls Try.prog 111 #[.string s, .slice a 4 cap] w fun e w' => e = .returned (.string r) ∧ Below w.heap.size w w' := by
  rw [← h]; exact put_any s a cap zs w hs hl hn hz hst

theorem fourB_iff (zs : List ByteArray) : fourB zs = true ↔ zs.length = 4 ∧ ∀ z ∈ zs, wordB z.data.toList = true := by
  unfold fourB wordsB
  rw [Bool.and_eq_true, List.all_eq_true, decide_eq_true_iff, and_comm]

end Go.Proofs.Ytaaeiogdhmiaaaa

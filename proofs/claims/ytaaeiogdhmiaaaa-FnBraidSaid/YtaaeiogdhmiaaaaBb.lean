/- The contracts of the model's 'l9Act' and BraidAct. -/
import Derived.Test.YtaaeiogdhmiaaaaBa
import Derived.Test.YtaaeiogdhmiaaaaCz
import Derived.Test.YtaaeiogdhmiaaaaSg
import Derived.Test.YtaaeiogdhmiaaaaSb
namespace Go.Proofs.Ytaaeiogdhmiaaaa
open Go.RowKit Go.Shelf

attribute [local go_sem] Oper.semAt_some

set_option maxRecDepth 100000 in
set_option maxHeartbeats 4000000 in
theorem l9Act_any (n : Int) (s u : ByteArray) (w : World) (hs : s.size ≤ 60) (hall : ∀ c ∈ s.data.toList, brB c = true) (hu : u.size ≤ 60) (hul : letL u.data.toList = true) :
    Calls Try.prog 77 #[brV n s, .string u] w fun e w' => e = .returned (actR true (actL s.data.toList u.data.toList)) ∧ Below w.heap.size w w' := by
  obtain ⟨W, hW⟩ : ∃ W, w.alloc (.cells #[.int .i64 n, .string s] 26) = W := ⟨_, rfl⟩
  have HX := Lib.hid (oneBox hW)
  have HW := Lib.hid hW
  clear hW
  have hsz := HX.out.2.1
  have HALL := Lib.hid hall
  have HUL := Lib.hid hul
  obtain ⟨o, ho⟩ : ∃ o, actL s.data.toList u.data.toList = o := ⟨_, rfl⟩
  rw [ho]
  have HOO := Lib.hid ho
  clear hall hul ho
  go_enter Try.func77, Try.ntmps77
  go_wp2
  rw [HW.out]
  go_loopw [1, 6] (fun x i wr => ∃ (k : Nat) (y : ByteArray), k ≤ s.size ∧ i = .int .i64 (k : Int) ∧ x = .string y ∧ y.size ≤ 60 ∧ letL y.data.toList = true ∧ Hid (actL (s.data.toList.drop k) y.data.toList = o) ∧ Below W.heap.size W wr) (fun _ i _ => s.size - (intOf i).toNat)
  case atStart => exact ⟨0, u, Nat.zero_le _, rfl, rfl, hu, HUL.out, Lib.hid HOO.out, Below.refl _ _⟩
  case round =>
    obtain ⟨k, y, hk, rfl, rfl, hy60, hyl, HR, hB⟩ := hrel
    obtain ⟨⟨c0, c1⟩, _, _⟩ := boxOf2 HX.out.2.2 hB
    have HB := Lib.hid hB
    have hwr := hB.size
    clear hB
    by_cases hlt : k < s.size
    · have hl : k < s.data.toList.length := by simpa using hlt
      have hcd : s.data.toList.drop k = s[k] :: s.data.toList.drop (k + 1) := by rw [List.drop_eq_getElem_cons hl]; rfl
      have hbr : brB s[k] = true := HALL.out _ (List.getElem_mem hl)
      have HLT := Lib.hid (l9Letter_any s[k] wr hbr)
      have HLen := actS_len s[k] hbr y.data.toList (by simpa using hy60)
      have HLet := actS_let hbr y.data.toList
      obtain ⟨r, hr⟩ : ∃ r, bstr (actS s[k] y.data.toList) = r := ⟨_, rfl⟩
      have hrl : r.data.toList = actS s[k] y.data.toList := by rw [← hr]; rfl
      have HRS : Hid (r.size = (actS s[k] y.data.toList).length) := Lib.hid (by rw [← hr, bstr_size])
      rw [← HRS.out] at HLen
      rw [← hrl] at HLet
      have HLE := Lib.hid HLet
      have HPUT := Lib.hid (fun (V : World) (hst : StrsAt V (some ⟨wr.heap.size, 0, none⟩) (bImg s[k])) => put_is r y (some ⟨wr.heap.size, 0, none⟩) 4 (bImg s[k]) V hy60 hyl (bImg_ok hbr).1 (fun z hz => by have := ((bImg_ok hbr).2 z hz).2; omega) hst hr)
      have HR2 : Hid ((if r.size ≤ 60 then actL (s.data.toList.drop (k + 1)) r.data.toList else none) = o) := Lib.hid (by
        have h := HR.out
        rw [hcd] at h
        rw [hrl, HRS.out]
        exact h)
      clear hr hrl HLet hbr hcd HR HRS hyl
      go_wp2_with fail
      refine HLT.out.mono ?_
      rintro e w1 ⟨rfl, hst, hb1⟩
      have HST := Lib.hid hst
      have HB1 := Lib.hid (HB.out.trans (hb1.mono hwr))
      have hs1 := HB1.out.size
      clear hst hb1
      go_wp2_with fail
      refine (HPUT.out _ HST.out).mono ?_
      rintro e w2 ⟨rfl, hb2⟩
      have HB2 := Lib.hid (HB1.out.trans (hb2.mono hs1))
      clear hb2 c0 c1
      by_cases h60 : r.size ≤ 60
      · have HR3 := Lib.hid (show actL (s.data.toList.drop (k + 1)) r.data.toList = o by have h := HR2.out; rw [if_pos h60] at h; exact h)
        go_wp2
        go_roundw
        case rel => exact ⟨k + 1, r, by omega, by go_num, rfl, h60, HLE.out, HR3, HB2.out⟩
        case measure => simp [intOf]; omega
      · have HR3 := Lib.hid (show none = o by have h := HR2.out; rw [if_neg h60] at h; exact h)
        go_wp2
        go_ret2
        refine ⟨?_, HX.out.1.trans (HB2.out.mono HX.out.1.size)⟩
        rw [← HR3.out]
        rfl
    · obtain rfl : k = s.size := by omega
      have HR3 := Lib.hid (show some y.data.toList = o by have h := HR.out; rw [List.drop_eq_nil_of_le (by simp)] at h; exact h)
      clear HR hyl
      go_wp2
      go_ret2
      refine ⟨?_, HX.out.1.trans (HB.out.mono HX.out.1.size)⟩
      rw [← HR3.out]
      rfl

set_option maxRecDepth 100000 in
set_option maxHeartbeats 1000000 in
theorem sBraidAct_any (n : Int) (s u : ByteArray) (w : World) (hs : s.size ≤ maxLen) (hu : u.size ≤ maxLen) :
    Calls Try.prog 31 #[brV n s, .string u] w fun e w' => e = .returned (actR (wordB u.data.toList && braidB n s) (actL s.data.toList u.data.toList)) ∧ Below w.heap.size w w' := by
  obtain ⟨W, hW⟩ : ∃ W, w.alloc (.cells #[.int .i64 n, .string s] 26) = W := ⟨_, rfl⟩
  have HX := Lib.hid (oneBox hW)
  have HW := Lib.hid hW
  clear hW
  have hsz := HX.out.2.1
  obtain ⟨b, hb⟩ : ∃ b, braidB n s = b := ⟨_, rfl⟩
  obtain ⟨bu, hbu⟩ : ∃ b, wordB u.data.toList = b := ⟨_, rfl⟩
  obtain ⟨o, ho⟩ : ∃ o, actL s.data.toList u.data.toList = o := ⟨_, rfl⟩
  have HA := Lib.hid (fun w => sBraidIn_any n s b w hs hb)
  have HWI : Hid (∀ w, Calls Try.prog 76 #[.string u] w fun e w' => e = .returned (.bool bu) ∧ Below w.heap.size w w') := Lib.hid (fun w => by rw [← hbu]; exact sWordIn_any u w hu)
  have HB := Lib.hid hb
  have HBU := Lib.hid hbu
  have HO := Lib.hid ho
  rw [hb, hbu, ho]
  clear hb hbu ho
  obtain ⟨⟨c0, c1⟩, _, _⟩ := boxOf2 HX.out.2.2 (Below.refl _ W)
  go_enter Try.func31, Try.ntmps31
  go_wp2_with fail
  rw [HW.out]
  refine (HA.out W).mono ?_
  rintro e w1 ⟨rfl, hb1⟩
  clear c0 c1
  have HB1 := Lib.hid hb1
  obtain ⟨⟨c0, c1⟩, _, _⟩ := boxOf2 HX.out.2.2 hb1
  clear hb1
  cases b with
  | false =>
    go_wp2_with fail
    go_ret2
    refine ⟨?_, HX.out.1.trans (HB1.out.mono HX.out.1.size)⟩
    rw [Bool.and_false]; rfl
  | true =>
    go_wp2_with fail
    refine (HWI.out _).mono ?_
    rintro e w2 ⟨rfl, hb2⟩
    clear c0 c1
    have hbW : Below W.heap.size W w2 := HB1.out.trans (hb2.mono HB1.out.size)
    have HBW := Lib.hid hbW
    obtain ⟨⟨c0, c1⟩, _, _⟩ := boxOf2 HX.out.2.2 hbW
    have hs2 := (HX.out.1.trans (hbW.mono HX.out.1.size)).size
    clear hb2 hbW
    cases bu with
    | false =>
      go_wp2_with fail
      go_ret2
      exact ⟨rfl, HX.out.1.trans (HBW.out.mono HX.out.1.size)⟩
    | true =>
      obtain ⟨_, p3, pA⟩ := braid_all HB.out
      have hw1 := (wordB_iff _).1 HBU.out
      have HAC := Lib.hid (l9Act_any n s u w2 (by first | omega | (simp at p3; omega)) (fun c hc => (pA c hc).1) (by simpa using hw1.1) hw1.2.1)
      clear p3 pA hw1
      rw [HO.out] at HAC
      go_wp2_with fail
      refine HAC.out.mono ?_
      rintro e w3 ⟨rfl, hb3⟩
      have hbe := HX.out.1.trans ((HBW.out.trans (hb3.mono HBW.out.size)).mono HX.out.1.size)
      cases o with
      | none =>
        dsimp only [actR]
        go_wp2_with fail
        go_ret2
        exact ⟨rfl, hbe⟩
      | some l =>
        dsimp only [actR]
        go_wp2_with fail
        go_ret2
        exact ⟨rfl, hbe⟩

end Go.Proofs.Ytaaeiogdhmiaaaa

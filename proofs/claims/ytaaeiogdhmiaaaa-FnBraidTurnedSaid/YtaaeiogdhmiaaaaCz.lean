/- The contract of the program's BraidAct. -/
import Derived.Test.YtaaeiogdhmiaaaaCy
namespace Go.Proofs.Ytaaeiogdhmiaaaa
open Go.RowKit Go.Shelf

attribute [local go_sem] Oper.semAt_some

/-- A word and whether there is one. -/
def actR (b : Bool) (r : Option (List UInt8)) : Value :=
  match b, r with
  | true, some l => .tuple #[.string (bstr l), .bool true]
  | _, _ => .tuple #[.string { data := #[] }, .bool false]

set_option maxRecDepth 100000 in
set_option maxHeartbeats 2000000 in
theorem iBraidAct_any (n : Int) (s u : ByteArray) (w : World) (hs : s.size ≤ maxLen) (hu : u.size ≤ maxLen) :
    Calls Try.prog 32 #[brV n s, .string u] w fun e w' => e = .returned (actR (wordB u.data.toList && braidB n s) (actL s.data.toList u.data.toList)) ∧ Below w.heap.size w w' := by
  obtain ⟨W, hW⟩ : ∃ W, w.alloc (.cells #[.int .i64 n, .string s] 26) = W := ⟨_, rfl⟩
  have HX := Lib.hid (oneBox hW)
  have HW := Lib.hid hW
  clear hW
  have hsz := HX.out.2.1
  cases hwu : wordB u.data.toList with
  | false =>
    have HWO := Lib.hid (fun w => wordOf_no u w hu hwu)
    clear hwu
    go_enter Try.func32, Try.ntmps32
    go_wp2_with fail
    rw [HW.out]
    refine (HWO.out W).mono ?_
    rintro e w1 ⟨rfl, hb1⟩
    go_wp2_with fail
    go_ret2
    exact ⟨rfl, HX.out.1.trans (hb1.mono HX.out.1.size)⟩
  | true =>
    have hw1 := (wordB_iff _).1 hwu
    have hu60 : u.size ≤ 60 := by simpa using hw1.1
    have HLu := Lib.hid hw1.2.1
    have HWO := Lib.hid (fun w => wordOf_yes u w hwu)
    obtain ⟨b, hb⟩ : ∃ b, braidB n s = b := ⟨_, rfl⟩
    have HA := Lib.hid (fun w => iBraidIn_any n s b w hs hb)
    have HB := Lib.hid hb
    obtain ⟨r, hr⟩ : ∃ r, actL s.data.toList u.data.toList = r := ⟨_, rfl⟩
    rw [hb, hr]
    have HR := Lib.hid hr
    clear hwu hw1 hb hr
    go_enter Try.func32, Try.ntmps32
    go_wp2_with fail
    rw [HW.out]
    refine (HWO.out W).mono ?_
    rintro e w1 ⟨g, cap, rfl, hown, hb1⟩
    have HO := Lib.hid hown
    have HB1 := Lib.hid hb1
    obtain ⟨⟨c0, c1⟩, _, _⟩ := boxOf2 HX.out.2.2 hb1
    clear hown hb1
    go_wp2_with fail
    refine (HA.out w1).mono ?_
    rintro e w2 ⟨rfl, hb2⟩
    clear c0 c1
    have HB2 := Lib.hid hb2
    have hbW : Below W.heap.size W w2 := HB1.out.trans (hb2.mono HB1.out.size)
    have HBW := Lib.hid hbW
    obtain ⟨⟨c0, c1⟩, _, _⟩ := boxOf2 HX.out.2.2 hbW
    clear hb2 hbW
    cases b with
    | false =>
      go_wp2_with fail
      go_ret2
      exact ⟨rfl, HX.out.1.trans (HBW.out.mono HX.out.1.size)⟩
    | true =>
      obtain ⟨_, p3, pA⟩ := braid_all HB.out
      have HPA := Lib.hid pA
      have HAC := Lib.hid ((callsIn_wide (n := 30)).1 (actions_in 30 (by omega) n s w2 HB.out))
      have hs60 : s.data.toList.length ≤ 60 := by simp at p3 ⊢; omega
      have HS60 := Lib.hid hs60
      clear pA p3 hs60
      go_wp2_with fail
      refine HAC.out.mono ?_
      rintro e w3 ⟨v, vs, rfl, hvl, hrow, hact, hb3⟩
      clear c0 c1
      obtain ⟨a, cap1, b1, rfl, h1, h2, h3⟩ := owns_slice hrow (by have := hb3.size; have := HBW.out.size; omega)
      have how3 := (HO.out.kept (grown_of_below HB2.out) (by simp [Value.ownBlock])).kept (grown_of_below hb3) (by simp [Value.ownBlock])
      have hul : u.size = u.data.toList.length := by simp
      have HON := Lib.hid (on_any s.data.toList (fun c hc => (HPA.out c hc).1) vs a b1 cap1 g cap _ u.data.toList w3 hvl HS60.out h1 h2 h3 hact (by rw [← hul]; exact hu60) HLu.out (by rw [hul] at how3; exact how3))
      have HB3 := Lib.hid (HX.out.1.trans ((HBW.out.trans (hb3.mono HBW.out.size)).mono HX.out.1.size))
      have hs3 := HB3.out.size
      rw [← hul] at HON
      clear hvl hrow hact hb3 h1 h2 h3 how3 hul
      obtain ⟨m, hm⟩ : ∃ m, vs.length = m := ⟨_, rfl⟩
      rw [hm] at HON ⊢
      clear hm
      go_wp2_with fail
      refine HON.out.mono ?_
      rintro e w4 ⟨hon, hb4⟩
      have HB4 := Lib.hid (HB3.out.trans (hb4.mono hs3))
      have hs4 := HB4.out.size
      clear hb4
      have hlen := Lib.hid (fun r h => actL_len s.data.toList u.data.toList r (by simpa using hu60) h)
      rw [HR.out] at hon hlen
      cases r with
      | none =>
        obtain rfl := (show e = _ from hon)
        go_wp2_with fail
        go_ret2
        exact ⟨rfl, HB4.out⟩
      | some l =>
        obtain ⟨g2, cap2, lo2, rfl, hown2⟩ := hon
        have HT := Lib.hid (told_yes lo2 g2 cap2 l.length l w4 rfl (hlen.out l rfl) hown2)
        clear hown2 hlen
        obtain ⟨k, hk⟩ : ∃ k, l.length = k := ⟨_, rfl⟩
        rw [hk] at HT ⊢
        clear hk
        go_wp2_with fail
        refine HT.out.mono ?_
        rintro e w5 ⟨rfl, hb5⟩
        go_wp2_with fail
        go_ret2
        exact ⟨rfl, HB4.out.trans (hb5.mono hs4)⟩

end Go.Proofs.Ytaaeiogdhmiaaaa

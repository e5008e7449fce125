/-
  Proves 'Rows.FnExactWordPutSaid': for every text and every list of texts, the program's WordPut answers as the model's WordPut and leaves the list alone.
  Conditions: none beyond the row's own.
-/
import Derived.Test.YtmbffbjopehllabRows
import Derived.Test.YtmbffbjopehllabSg
import Derived.Test.YtmbffbjopehllabIm
import Derived.Test.YtmbffbjopehllabJc
import Derived.WalkKit
import Derived.ProofKit
import Derived.OpenShut
import Derived.ShutString
import Derived.ChangeOld
import Derived.Below
namespace Go.Proofs.Ytmbffbjopehllab.LWordPut
open Go.ChangeShapes Go.WideShapes Go.ChangeAt Go.RowKit
open Go.ChangeMaps (open_string shut_string)
set_option linter.unusedVariables false

theorem own : ownKnob Try.prog.godebug = none := by kernel_rfl
theorem laidOut : laidOutB Try.prog = true := by kernel_rfl

set_option maxHeartbeats 2000000 in
theorem walk (a0 : ByteArray) (a1 : Option Addr) (len1 cap1 : Nat) (z1 : List ByteArray) (w : World) (w0 : a0.size ≤ maxLen) (w1 : IsStrs w a1 len1 z1) :
    Calls Try.prog 10 #[.string a0, .slice a1 len1 cap1] w fun e w' => e = .returned (.bool true) ∧ Below w.heap.size w w' := by
  have hm := w0
  have hm1 := w1.max
  have HN := Lib.hid w1.len
  have HS := Lib.hid w1.at_
  clear w1
  unfold maxLen at hm
  by_cases hs : a0.size ≤ 1048576
  · by_cases hb : wordB a0.data.toList = true ∧ fourB z1 = true
    · have HB := Lib.hid hb
      clear hb
      obtain rfl : len1 = 4 := by
        have h1 := ((fourB_iff z1).1 HB.out.2).1
        have h2 := HN.out
        omega
      by_cases h : (redL [] (putL z1 a0.data.toList)).length ≤ 60
      · have HT := Lib.hid (toldV_yes h)
        clear h
        go_enter Try.func10, Try.ntmps10
        go_wp2_with fail
        refine (szStringS_any a1 cap1 4 1048576 z1 w HN.out (by unfold maxLen; omega) HS.out (by omega)).mono ?_
        rintro e W1 ⟨⟨k, rfl, hk⟩, rfl⟩
        by_cases hk0 : k < 0
        · clear hk
          go_wp2
          go_ret
          exact ⟨rfl, Below.refl _ _⟩
        · have hnl : 4 ≤ 1048576 := by omega
          clear hk
          go_wp2_with fail
          refine (toStringS_any a1 cap1 4 z1 w HN.out hnl HS.out).mono ?_
          rintro e W1 ⟨rfl, hr1, hb1⟩
          have HR1 := Lib.hid (strsAt_of_owns HN.out hr1 HS.out.small)
          clear hr1
          go_wp2_with fail
          refine (sPut_yes a0 _ _ z1 W1 HB.out.1 HB.out.2 HR1.out.1).mono ?_
          rintro e W2 ⟨rfl, hb2⟩
          have hB2 : Below w.heap.size w W2 := hb1.trans (hb2.mono hb1.size)
          rw [HT.out]
          go_wp2_with fail
          refine (toStringS_any a1 cap1 4 z1 W2 HN.out hnl (HS.out.below hB2)).mono ?_
          rintro e W3 ⟨rfl, hr3, hb3⟩
          have HR3 := Lib.hid (strsAt_of_owns HN.out hr3 HS.out.small)
          have hB3 : Below w.heap.size w W3 := hB2.trans (hb3.mono hB2.size)
          clear hr3
          go_wp2_with fail
          refine (iPut_yes a0 _ _ _ _ z1 W3 ⟨HN.out, fun _ => rfl, HR3.out.2.1, HR3.out.2.2, HS.out.small⟩ HB.out.1 HB.out.2).mono ?_
          rintro e W4 ⟨rfl, hb4⟩
          have hB4 : Below w.heap.size w W4 := hB3.trans (hb4.mono hB3.size)
          have HX := Lib.hid (HR3.out.1.below hb4)
          rw [HT.out]
          go_wp2_with fail
          refine (toStringS_any a1 cap1 4 z1 W4 HN.out hnl (HS.out.below hB4)).mono ?_
          rintro e W5 ⟨rfl, hr5, hb5⟩
          have HR5 := Lib.hid (strsAt_of_owns HN.out hr5 HS.out.small)
          have hB5 : Below w.heap.size w W5 := hB4.trans (hb5.mono hB4.size)
          clear hr5
          go_wp2_with fail
          refine (eqStringS_yes _ _ _ _ 4 z1 W5 HN.out hm1 (HX.out.below hb5) HR5.out.1).mono ?_
          rintro e W6 ⟨rfl, hb6⟩
          go_wp2_with fail
          go_ret
          exact ⟨rfl, hB5.trans (hb6.mono hB5.size)⟩
      · have HT := Lib.hid (toldV_no h)
        clear h
        go_enter Try.func10, Try.ntmps10
        go_wp2_with fail
        refine (szStringS_any a1 cap1 4 1048576 z1 w HN.out (by unfold maxLen; omega) HS.out (by omega)).mono ?_
        rintro e W1 ⟨⟨k, rfl, hk⟩, rfl⟩
        by_cases hk0 : k < 0
        · clear hk
          go_wp2
          go_ret
          exact ⟨rfl, Below.refl _ _⟩
        · have hnl : 4 ≤ 1048576 := by omega
          clear hk
          go_wp2_with fail
          refine (toStringS_any a1 cap1 4 z1 w HN.out hnl HS.out).mono ?_
          rintro e W1 ⟨rfl, hr1, hb1⟩
          have HR1 := Lib.hid (strsAt_of_owns HN.out hr1 HS.out.small)
          clear hr1
          go_wp2_with fail
          refine (sPut_yes a0 _ _ z1 W1 HB.out.1 HB.out.2 HR1.out.1).mono ?_
          rintro e W2 ⟨rfl, hb2⟩
          have hB2 : Below w.heap.size w W2 := hb1.trans (hb2.mono hb1.size)
          rw [HT.out]
          go_wp2_with fail
          refine (toStringS_any a1 cap1 4 z1 W2 HN.out hnl (HS.out.below hB2)).mono ?_
          rintro e W3 ⟨rfl, hr3, hb3⟩
          have HR3 := Lib.hid (strsAt_of_owns HN.out hr3 HS.out.small)
          have hB3 : Below w.heap.size w W3 := hB2.trans (hb3.mono hB2.size)
          clear hr3
          go_wp2_with fail
          refine (iPut_yes a0 _ _ _ _ z1 W3 ⟨HN.out, fun _ => rfl, HR3.out.2.1, HR3.out.2.2, HS.out.small⟩ HB.out.1 HB.out.2).mono ?_
          rintro e W4 ⟨rfl, hb4⟩
          have hB4 : Below w.heap.size w W4 := hB3.trans (hb4.mono hB3.size)
          have HX := Lib.hid (HR3.out.1.below hb4)
          rw [HT.out]
          go_wp2_with fail
          refine (toStringS_any a1 cap1 4 z1 W4 HN.out hnl (HS.out.below hB4)).mono ?_
          rintro e W5 ⟨rfl, hr5, hb5⟩
          have HR5 := Lib.hid (strsAt_of_owns HN.out hr5 HS.out.small)
          have hB5 : Below w.heap.size w W5 := hB4.trans (hb5.mono hB4.size)
          clear hr5
          go_wp2_with fail
          refine (eqStringS_yes _ _ _ _ 4 z1 W5 HN.out hm1 (HX.out.below hb5) HR5.out.1).mono ?_
          rintro e W6 ⟨rfl, hb6⟩
          go_wp2_with fail
          go_ret
          exact ⟨rfl, hB5.trans (hb6.mono hB5.size)⟩
    · have HB := Lib.hid hb
      clear hb
      go_enter Try.func10, Try.ntmps10
      go_wp2_with fail
      refine (szStringS_any a1 cap1 len1 1048576 z1 w HN.out hm1 HS.out (by omega)).mono ?_
      rintro e W1 ⟨⟨k, rfl, hk⟩, rfl⟩
      by_cases hk0 : k < 0
      · clear hk
        go_wp2
        go_ret
        exact ⟨rfl, Below.refl _ _⟩
      · have hnl : len1 ≤ 1048576 := by rcases hk with h | ⟨_, h, _⟩ <;> omega
        clear hk
        go_wp2_with fail
        refine (toStringS_any a1 cap1 len1 z1 w HN.out hnl HS.out).mono ?_
        rintro e W1 ⟨rfl, hr1, hb1⟩
        have HR1 := Lib.hid (strsAt_of_owns HN.out hr1 HS.out.small)
        clear hr1
        go_wp2_with fail
        refine (sPut_no a0 _ _ _ z1 W1 w0 HN.out hm1 HR1.out.1 HB.out).mono ?_
        rintro e W2 ⟨rfl, hb2⟩
        have hB2 : Below w.heap.size w W2 := hb1.trans (hb2.mono hb1.size)
        go_wp2_with fail
        refine (toStringS_any a1 cap1 len1 z1 W2 HN.out hnl (HS.out.below hB2)).mono ?_
        rintro e W3 ⟨rfl, hr3, hb3⟩
        have HR3 := Lib.hid (strsAt_of_owns HN.out hr3 HS.out.small)
        have hB3 : Below w.heap.size w W3 := hB2.trans (hb3.mono hB2.size)
        clear hr3
        go_wp2_with fail
        refine (iPut_no a0 _ _ _ _ z1 W3 w0 hm1 ⟨HN.out, fun _ => rfl, HR3.out.2.1, HR3.out.2.2, HS.out.small⟩ HB.out).mono ?_
        rintro e W4 ⟨rfl, hb4⟩
        have hB4 : Below w.heap.size w W4 := hB3.trans (hb4.mono hB3.size)
        have HX := Lib.hid (HR3.out.1.below hb4)
        go_wp2_with fail
        refine (toStringS_any a1 cap1 len1 z1 W4 HN.out hnl (HS.out.below hB4)).mono ?_
        rintro e W5 ⟨rfl, hr5, hb5⟩
        have HR5 := Lib.hid (strsAt_of_owns HN.out hr5 HS.out.small)
        have hB5 : Below w.heap.size w W5 := hB4.trans (hb5.mono hB4.size)
        clear hr5
        go_wp2_with fail
        refine (eqStringS_yes _ _ _ _ len1 z1 W5 HN.out hm1 (HX.out.below hb5) HR5.out.1).mono ?_
        rintro e W6 ⟨rfl, hb6⟩
        go_wp2_with fail
        go_ret
        exact ⟨rfl, hB5.trans (hb6.mono hB5.size)⟩
  · go_enter Try.func10, Try.ntmps10
    go_wp2_with fail
    go_ret
    exact ⟨rfl, Below.refl _ _⟩

set_option maxRecDepth 100000 in
theorem lifted (os : Os) (started : os.Started) (H : Type) (enc : TypeId × Value → H) :
    ReturnsInHanded {} Try.checked os 10 .any (Rows.fnExactWordPutSpec.pre6 enc Try.prog Try.f10 Rows.fnExactWordPutRow.domain false) (Rows.fnExactWordPutSpec.post enc Try.prog Try.f10 false true false false) := by
  refine returnsInHanded_of_change (C := Try.checked) own started (by kernel_rfl) Try.func10
    (ChangeSpec.witness6 (enc := enc) (C := Try.checked) false ⟨#[], #[.string ByteArray.empty, .slice none 0 0], []⟩ 8 (by kernel_rfl) (by kernel_rfl) (by kernel_rfl) (by kernel_rfl)) ?_
  intro W base args ds gs before hval0 hW hcnd _
  have hval : ∀ (j : Nat) t v, Try.f10.params[j]? = some t → args[j]? = some v → Value.okWide Try.prog W .any base t v := hval0
  have hW' := hW
  obtain ⟨p, q, hA0, hV, rfl, hfz, hnd⟩ := hW
  have hA : DataW.TrodAll enc Try.prog W 0 (fun _ => true) true Try.f10.params.toList args.toList ds p := hA0
  rw [Try.params10] at hA hval
  obtain ⟨v0, vs0, d0, ds0, p0, q0, hargs, rfl, rfl, h0, r0⟩ := trodAll_cons hA
  obtain ⟨v1, vs1, d1, ds1, p1, q1, rfl, rfl, rfl, h1, r1⟩ := trodAll_cons r0
  obtain ⟨rfl, rfl, rfl⟩ := trodAll_nil r1
  obtain rfl : args = #[v0, v1] := by cases args; simp_all
  obtain ⟨rfl, rfl⟩ := trodVars_none hV
  obtain ⟨a0, rfl, rfl, rfl, w0⟩ := open_string Try.underlying9 (hval 0 9 v0 rfl rfl) h0
  obtain ⟨a1, len1, cap1, rfl⟩ := okWide_slice Try.underlying34 (hval 1 34 v1 rfl rfl)
  have k1 := h1
  have lt1 : ∀ x ∈ p1, x.block < W.heap.size := by obtain ⟨m, hm⟩ := k1; exact DataW.trod_lt m _ _ _ hm
  obtain ⟨z1, w1⟩ : ∃ zs, IsStrs W a1 len1 zs := by
    obtain ⟨fuel, hf⟩ := h1
    rcases open_strings Try.underlying34 Try.underlying9 (by kernel_rfl) hf with ⟨hcs, _⟩ | ⟨x, l, c, zs, hcs, _, hl, hm, hz, _, hcell, hws⟩
    · simp [Value.cells] at hcs
      obtain ⟨rfl, rfl, rfl⟩ := hcs
      exact ⟨[], rfl, Nat.zero_le _, fun h => absurd h (Nat.lt_irrefl _), fun s h => by cases h⟩
    · simp [Value.cells] at hcs
      obtain ⟨rfl, rfl, rfl⟩ := hcs
      have hlz : len1 ≤ zs.length := by rw [hz]; split <;> omega
      exact ⟨zs.take len1, by rw [List.length_take]; omega, by omega, strsAt_new _ _ _ zs x rfl hlz hcell hws⟩
  clear hA0 hval0
  refine (walk a0 a1 len1 cap1 z1 W w0 w1).mono fun e W' ⟨he, bel⟩ => ?_
  subst he
  exact ⟨_, rfl, _, _, _, [], _, [], hW', trodAll_mk1 (shut_bool Try.underlying4 _), (trodAll_cons_mk (shut_string Try.underlying9 w0) (trodAll_cons_mk (Below.trod laidOut (by kernel_rfl) (of_decide_eq_true (by kernel_rfl)) k1 bel lt1) trodAll_mk0)), rfl, bel.frame _, fun h => by cases h⟩

theorem over : Rows.fnExactWordPutRow.holds Try.pinned (OpenSpec.ofChange Rows.fnExactWordPutSpec) :=
  OpenClaim.holds_of_wide 10 Try.f10 rfl rfl rfl rfl rfl rfl rfl ⟨rfl, rfl, rfl, rfl, rfl⟩ rfl rfl rfl rfl rfl (by kernel_rfl) Try.func10 (by kernel_rfl)
    (of_decide_eq_true (by kernel_rfl)) (by unfold Func.isWrapper; first | (rw [if_pos (by decide +kernel)]; kernel_rfl) | (rw [if_neg (by decide +kernel)]; exact ⟨rfl, rfl⟩))
    (fun os started H enc _ => lifted os started H enc)

theorem proved : Rows.FnExactWordPutSaid := over
#print axioms proved
end Go.Proofs.Ytmbffbjopehllab.LWordPut

/-
  Proves 'Rows.FnExactFoxAllSaid': for every text, the program's FoxAll answers as the model's FoxAll, and its answer shares no memory with the answer of another call.
  Conditions: none beyond the row's own.
-/
import Derived.Test.YtidmlppbmcphbaaRows
import Derived.WalkKit
import Derived.ProofKit
import Derived.OpenShut
import Derived.ShutString
import Derived.ChangeOld
import Derived.Below
import Derived.Test.YtidmlppbmcphbaaBa
import Derived.Test.YtidmlppbmcphbaaBb
import Derived.Test.YtidmlppbmcphbaaBc
import Derived.Test.YtidmlppbmcphbaaBd

namespace Go.Proofs.Ytidmlppbmcphbaa.LFoxAll
open Go.ChangeShapes Go.WideShapes Go.ChangeAt Go.RowKit
open Go.ChangeMaps (open_string shut_string)
set_option linter.unusedVariables false

theorem own : ownKnob Try.prog.godebug = none := by kernel_rfl
theorem laidOut : laidOutB Try.prog = true := by kernel_rfl

theorem cond_small {s : ByteArray} {b : Bool} (h : wordB s.data.toList = b) : (∀ r ∈ cond b (foxRows s) [], SmallT r) ∧ (cond b (foxRows s) []).length ≤ 4 ∧ total (cond b (foxRows s) []) ≤ 240 := by
  cases b with
  | false => exact ⟨fun r h => (by cases h), Nat.zero_le _, by simp [total]⟩
  | true =>
    exact ⟨fun r hr => by obtain ⟨g, _, rfl⟩ := List.mem_map.1 hr; exact foxRow_small s g h, Nat.le_of_eq (foxRows_len s), foxRows_total s ((wordB_iff _).1 h).1⟩
theorem sFoxAll_law {s : ByteArray} {b : Bool} {n : Nat} {w : World} (hs : s.size ≤ maxLen) (hb : wordB s.data.toList = b) (hn : (cond b (foxRows s) []).length = n) :
    Calls Try.prog 48 #[.string s] w (SAll w b n (cond b (foxRows s) [])) := by
  cases b with
  | false => subst hn; exact sFoxAll_no s w hs hb
  | true => obtain rfl : n = 4 := by rw [← hn]; exact foxRows_len s
            exact sFoxAll_yes s w hs hb
theorem marks_small {k : Nat} {rows : List (List Tm)} (hk : k + 2 * total rows ≤ 1000000) : ∀ r ∈ marksTT k rows, SmallT r := fun r hr => by
  obtain ⟨i, hi, rfl⟩ := List.getElem_of_mem hr
  have hi' : i < rows.length := by rw [marksTT_len] at hi; exact hi
  rw [marksTT_get rows k i hi']
  have := total_get rows i hi'
  exact marksT_small _ _ (by omega) (by omega)

set_option maxRecDepth 100000 in
set_option maxHeartbeats 4000000 in
theorem walk (a0 : ByteArray) (w : World) (w0 : a0.size ≤ maxLen) :
    Calls Try.prog 13 #[.string a0] w fun e w' => e = .returned (.bool true) ∧ Below w.heap.size w w' := by
  have hm := w0
  unfold maxLen at hm
  have HM := Lib.hid w0
  obtain ⟨b, hb⟩ : ∃ b, wordB a0.data.toList = b := ⟨_, rfl⟩
  obtain ⟨hsm, hn4, ht⟩ := cond_small hb
  have HI : Hid (∀ W, Calls Try.prog 49 #[.string a0] W (IAll W b (cond b (foxRows a0) []))) := Lib.hid fun W => iFoxAll_any a0 b W w0 hb
  obtain ⟨n, hn⟩ : ∃ n, (cond b (foxRows a0) []).length = n := ⟨_, rfl⟩
  have HSp : Hid (∀ W, Calls Try.prog 48 #[.string a0] W (SAll W b n (cond b (foxRows a0) []))) := Lib.hid fun W => sFoxAll_law w0 hb hn
  obtain ⟨rows, hrows⟩ : ∃ rows, cond b (foxRows a0) [] = rows := ⟨_, rfl⟩
  rw [hrows] at hsm hn4 ht hn HI HSp
  rw [hn] at hn4
  have HN := Lib.hid hn
  have HSM := Lib.hid hsm
  obtain ⟨M, hM⟩ : ∃ M, 1 + 2 * total rows = M := ⟨_, rfl⟩
  have hMb : 0 < M ∧ M ≤ 481 := by omega
  obtain ⟨hM0, hM1⟩ := hMb
  have hMn : decide ((M : Int) < 0) = false := decide_eq_false (by omega)
  have hMl : ¬ (M : Int) < 0 := by omega
  have hMe : ((M : Int) != (M : Int)) = false := by simp
  have HMM := Lib.hid hM
  have HTT := Lib.hid ht
  have hbb : (b != b) = false := by cases b <;> rfl
  clear w0 hb hsm hn hrows hM ht
  by_cases hs : a0.size ≤ 1048576
  · go_enter Try.func13, Try.ntmps13
    go_wp2_with fail
    refine (HSp.out _).mono ?_
    rintro e W0 ⟨⟨aw, cw, rfl, hIw⟩, hb0⟩
    have HW := Lib.hid hIw
    have HB0 := Lib.hid hb0
    clear hIw hb0
    go_wp2_with fail
    refine (HI.out _).mono ?_
    rintro e W1 ⟨⟨vg, vals, rfl, hog⟩, hb1⟩
    obtain ⟨ag, cg, rfl, hIg⟩ := hog.isTT HSM.out (by rw [HN.out]; unfold maxLen; omega)
    rw [HN.out] at hIg hog ⊢
    have HG := Lib.hid hog
    have HIG := Lib.hid hIg
    have HB1 := Lib.hid hb1
    clear hIg hog hb1
    go_wp2_with fail
    refine (eqTermSS_yes ag aw cg cw n rows _ HIG.out (HW.out.below HB1.out)).mono ?_
    rintro e W2 ⟨rfl, hb2⟩
    have HB2 := Lib.hid (HB1.out.trans (hb2.mono HB1.out.size))
    have HG2 := Lib.hid (HG.out.below hb2)
    clear hb2
    have HMK := Lib.hid (markTermSS_any W0.heap.size 1 _ vals rows _ HG2.out (by rw [HN.out]; have := HTT.out; omega) (by omega) (by have := HTT.out; omega))
    rw [HMM.out] at HMK
    go_wp2_with fail
    refine HMK.out.mono ?_
    rintro e W3 ⟨rfl, hog3, htd⟩
    have HG3 := Lib.hid hog3
    have HB3 := Lib.hid (HB2.out.trans (htd.below HB2.out.size fun i hi => (HG2.out.low hi).1))
    obtain ⟨ag3, cg3, e3, hI3⟩ := hog3.isTT (marks_small (by have := HTT.out; omega)) (by rw [marksTT_len, HN.out]; unfold maxLen; omega)
    rw [marksTT_len, HN.out] at e3 hI3
    simp only [Value.slice.injEq, true_and] at e3
    obtain ⟨rfl, rfl⟩ := e3
    have HI3 := Lib.hid hI3
    clear hog3 htd hI3 HMK
    have HH1 := Lib.hid (heldTermSS_any 1 ag cg n rows _ HI3.out (by omega) (by have := HTT.out; omega))
    rw [HMM.out] at HH1
    go_wp2_with fail
    refine HH1.out.mono ?_
    rintro e W4 ⟨rfl, hb4⟩
    have HB4 := Lib.hid (HB3.out.trans (hb4.mono HB3.out.size))
    have HI4 := Lib.hid (HI3.out.below hb4)
    clear hb4 HH1
    go_wp2_with fail
    refine (HI.out _).mono ?_
    rintro e W5 ⟨⟨vh, vals5, rfl, hoh⟩, hb5⟩
    obtain ⟨ah, ch, rfl, hIh⟩ := hoh.isTT HSM.out (by rw [HN.out]; unfold maxLen; omega)
    rw [HN.out] at hIh ⊢
    have HIH := Lib.hid hIh
    have HB5 := Lib.hid (HB4.out.trans (hb5.mono HB4.out.size))
    have HI5 := Lib.hid (HI4.out.below hb5)
    clear hoh hIh hb5
    go_wp2_with fail
    refine (eqTermSS_yes ah aw ch cw n rows _ HIH.out (HW.out.below HB5.out)).mono ?_
    rintro e W6 ⟨rfl, hb6⟩
    have HB6 := Lib.hid (HB5.out.trans (hb6.mono HB5.out.size))
    have HI6 := Lib.hid (HI5.out.below hb6)
    clear hb6
    have HH2 := Lib.hid (heldTermSS_any 1 ag cg n rows _ HI6.out (by omega) (by have := HTT.out; omega))
    rw [HMM.out] at HH2
    go_wp2_with fail
    refine HH2.out.mono ?_
    rintro e W7 ⟨rfl, hb7⟩
    have HB7 := Lib.hid (HB6.out.trans (hb7.mono HB6.out.size))
    clear hb7 HH2
    go_wp2_with fail
    go_ret
    exact ⟨rfl, HB0.out.trans (HB7.out.mono HB0.out.size)⟩
  · go_enter Try.func13, Try.ntmps13
    go_wp2_with fail
    go_ret
    exact ⟨rfl, Below.refl _ _⟩

set_option maxRecDepth 100000 in
theorem lifted (os : Os) (started : os.Started) (H : Type) (enc : TypeId × Value → H) :
    ReturnsInHanded {} Try.checked os 13 .any (Rows.fnExactFoxAllSpec.pre6 enc Try.prog Try.f13 Rows.fnExactFoxAllRow.domain false) (Rows.fnExactFoxAllSpec.post enc Try.prog Try.f13 false true false false) := by
  refine returnsInHanded_of_change (C := Try.checked) own started (by kernel_rfl) Try.func13
    (ChangeSpec.witness6 (enc := enc) (C := Try.checked) false ⟨#[], #[.string ByteArray.empty], []⟩ 8 (by kernel_rfl) (by kernel_rfl) (by kernel_rfl) (by kernel_rfl)) ?_
  intro W base args ds gs before hval0 hW hcnd _
  have hval : ∀ (j : Nat) t v, Try.f13.params[j]? = some t → args[j]? = some v → Value.okWide Try.prog W .any base t v := hval0
  have hW' := hW
  obtain ⟨p, q, hA0, hV, rfl, hfz, hnd⟩ := hW
  have hA : DataW.TrodAll enc Try.prog W 0 (fun _ => true) true Try.f13.params.toList args.toList ds p := hA0
  rw [Try.params13] at hA hval
  obtain ⟨v0, vs0, d0, ds0, p0, q0, hargs, rfl, rfl, h0, r0⟩ := trodAll_cons hA
  obtain ⟨rfl, rfl, rfl⟩ := trodAll_nil r0
  obtain rfl : args = #[v0] := by cases args; simp_all
  obtain ⟨rfl, rfl⟩ := trodVars_none hV
  obtain ⟨a0, rfl, rfl, rfl, w0⟩ := open_string Try.underlying9 (hval 0 9 v0 rfl rfl) h0
  clear hA0 hval0
  refine (walk a0 W w0).mono fun e W' ⟨he, bel⟩ => ?_
  subst he
  exact ⟨_, rfl, _, _, _, [], [], [], hW', trodAll_mk1 (shut_bool Try.underlying4 _), (trodAll_cons_mk (shut_string Try.underlying9 w0) trodAll_mk0), rfl, bel.frame _, fun h => by cases h⟩

theorem over : Rows.fnExactFoxAllRow.holds Try.pinned (OpenSpec.ofChange Rows.fnExactFoxAllSpec) :=
  OpenClaim.holds_of_wide 13 Try.f13 rfl rfl rfl rfl rfl rfl rfl ⟨rfl, rfl, rfl, rfl, rfl⟩ rfl rfl rfl rfl rfl (by kernel_rfl) Try.func13 (by kernel_rfl)
    (of_decide_eq_true (by kernel_rfl)) (by unfold Func.isWrapper; first | (rw [if_pos (by decide +kernel)]; kernel_rfl) | (rw [if_neg (by decide +kernel)]; exact ⟨rfl, rfl⟩))
    (fun os started H enc _ => lifted os started H enc)

theorem proved : Rows.FnExactFoxAllSaid := over
#print axioms proved
end Go.Proofs.Ytidmlppbmcphbaa.LFoxAll

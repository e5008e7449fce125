/-
  Proves 'Rows.FnLyndonListSaid': for every list of bytes, for the two numbers that the model draws from it, the list holds Lyndon words with so many letters, in ascending order, as many as counted.
  Conditions: none beyond the row's own.
-/
import Derived.Test.YtdhmicpoigoleaaRows
import Derived.WalkKit
import Derived.ProofKit
import Derived.OpenShut
import Derived.ShutString
import Derived.ChangeOld
import Derived.Below
import Derived.Test.YtdhmicpoigoleaaBa
import Derived.Test.YtdhmicpoigoleaaBb
import Derived.Test.YtdhmicpoigoleaaBc

namespace Go.Proofs.Ytdhmicpoigoleaa.LLyndonListP
open Go.ChangeShapes Go.WideShapes Go.ChangeAt Go.RowKit
open Go.ChangeMaps (open_string shut_string)
set_option linter.unusedVariables false

theorem own : ownKnob Try.prog.godebug = none := by kernel_rfl
theorem laidOut : laidOutB Try.prog = true := by kernel_rfl

def ascB2 : List ByteArray → Bool
  | x :: y :: r => Op.bytesLess x.data.toList y.data.toList && ascB2 (y :: r)
  | _ => true
theorem asc_get : ∀ (zs : List ByteArray) (k : Nat) (h : k + 1 < zs.length), ascB2 zs = true → Op.bytesLess zs[k].data.toList zs[k + 1].data.toList = true
  | [], _, h, _ => by simp at h
  | [x], k, h, _ => by simp at h
  | x :: y :: r, k, h, ha => by
    rw [ascB2, Bool.and_eq_true] at ha
    cases k with
    | zero => exact ha.1
    | succ k => exact asc_get (y :: r) k (by simpa using h) ha.2
def checkL (k m : Nat) : Bool := (listL k m).all (fun s => lynB s && decide (s.size = m)) && (ascB2 (listL k m) && decide (((listL k m).length : Int) = countI k m))
theorem check_all : ∀ (k : Fin 4) (m : Fin 5), k.val = 0 ∨ m.val = 0 ∨ checkL k.val m.val = true := by decide +kernel
theorem check_list {k m : Nat} (hk1 : 1 ≤ k) (hk : k ≤ 3) (hm1 : 1 ≤ m) (hm : m ≤ 4) : (∀ z ∈ listL k m, lynB z = true ∧ z.size = m) ∧
    (∀ i (h : i + 1 < (listL k m).length), Op.bytesLess ((listL k m)[i + 1]).toList ((listL k m)[i]).toList = false ∧ (((listL k m)[i + 1]).toList == ((listL k m)[i]).toList) = false) ∧ ((listL k m).length : Int) = countI k m := by
  have hc : checkL k m = true := by
    rcases check_all ⟨k, by omega⟩ ⟨m, by omega⟩ with h | h | h
    · have h : k = 0 := h
      omega
    · have h : m = 0 := h
      omega
    · exact h
  unfold checkL at hc
  rw [Bool.and_eq_true, Bool.and_eq_true, decide_eq_true_eq] at hc
  refine ⟨fun z hz => ?_, fun i hi => ?_, hc.2.2⟩
  · have := List.all_eq_true.1 hc.1 z hz
    rwa [Bool.and_eq_true, decide_eq_true_eq] at this
  · have h1 := asc_get _ i hi hc.2.1
    rw [ByteArray.toList_eq, ByteArray.toList_eq]
    refine ⟨bl_asymm h1, ?_⟩
    have : (listL k m)[i + 1].data.toList ≠ (listL k m)[i].data.toList := fun e => by rw [e, bl_irrefl] at h1; cases h1
    simpa using this
theorem check_walk {k m : Nat} {us : List ByteArray} (hk1 : 1 ≤ k) (hk : k ≤ 3) (hm1 : 1 ≤ m) (hm : m ≤ 4) (hu : listL k m = us) : (∀ z ∈ us, lynB z = true ∧ z.size = m) ∧
    (∀ i (h : i + 1 < us.length), Op.bytesLess (us[i + 1]).toList (us[i]).toList = false ∧ ((us[i + 1]).toList == (us[i]).toList) = false) ∧ (us.length : Int) = countI k m := by
  subst hu
  exact check_list hk1 hk hm1 hm

set_option maxRecDepth 100000 in
set_option maxHeartbeats 8000000 in
theorem walk (a0 : Option Addr) (len0 cap0 : Nat) (z0 : List Int) (w : World) (w0 : BsAt w.heap.size w a0 len0 cap0 z0) :
    Calls Try.prog 13 #[.slice a0 len0 cap0] w fun e w' => e = .returned (.bool true) ∧ Below w.heap.size w w' := by
  have HDr := Lib.hid (drawLyndonList_any a0 len0 cap0 z0 w w0)
  have hfit := w0.fit
  unfold maxLen at hfit
  clear w0
  by_cases hlong : ¬ len0 ≤ 1048576
  · have hd : decide ((1048576 : Int) < (len0 : Int)) = true := decide_eq_true (by omega)
    go_enter Try.func13, Try.ntmps13
    go_wp2_with fail
    go_ret
    exact ⟨rfl, Below.refl _ _⟩
  have hd : decide ((1048576 : Int) < (len0 : Int)) = false := decide_eq_false (by omega)
  go_enter Try.func13, Try.ntmps13
  go_wp2_with fail
  refine HDr.out.mono ?_
  rintro e w1 ⟨⟨k, m, rfl, hk3, hm1, hm4⟩, hb1⟩
  have HB1 := Lib.hid hb1

  obtain ⟨b, hb⟩ : ∃ b, (inR 1 4 (k : Int) && inR 1 6 (m : Int)) = b := ⟨_, rfl⟩
  obtain ⟨L0, hL0⟩ : ∃ L0, listL (k : Int).toNat (m : Int).toNat = L0 := ⟨_, rfl⟩
  obtain ⟨us, hus⟩ : ∃ us, cond b L0 [] = us := ⟨_, rfl⟩
  have hl := list_len hL0 hb hus
  have hsmU := list_small hL0 hb hus
  obtain ⟨L, hL⟩ : ∃ L, us.length = L := ⟨_, rfl⟩
  rw [hL] at hl
  have HB := Lib.hid hb
  have HL0 := Lib.hid hL0
  have HUS := Lib.hid hus
  have HSM := Lib.hid hsmU
  have HL := Lib.hid hL
  have hmx : Try.prog.follows .mixedOrders = true := by kernel_rfl
  have hbb : (b != b) = false := by cases b <;> rfl
  clear hb1 hb hL0 hus hsmU hL
  go_wp2_with fail
  refine (iLyndonList_law  HL0.out HB.out).mono ?_
  rintro e w2 ⟨⟨vg, rfl, hog⟩, hb2⟩
  rw [HUS.out] at hog
  obtain ⟨ag, cg, rfl, hIg⟩ := hog.strs HSM.out
  rw [HL.out]
  have HG := Lib.hid hIg
  have HB2 := Lib.hid (HB1.out.trans (hb2.mono HB1.out.size))
  clear hog hIg hb2
  go_wp2_with fail
  refine (sLyndonList_law  HL0.out HB.out).mono ?_
  rintro e w3 ⟨⟨vw, rfl, how⟩, hb3⟩
  rw [HUS.out] at how
  obtain ⟨aw, cw, rfl, hIw⟩ := how.strs HSM.out
  rw [HL.out]
  have HW := Lib.hid hIw
  have HG3 := Lib.hid (HG.out.below hb3)
  have HB3 := Lib.hid (HB2.out.trans (hb3.mono HB2.out.size))
  clear how hIw hb3
  go_wp2_with fail
  refine (sameTexts_yes _ _ _ _ L us _ HL.out (by unfold maxLen; omega) HG3.out HW.out).mono ?_
  rintro e w4 ⟨rfl, hb4⟩
  have HB4 := Lib.hid (HB3.out.trans (hb4.mono HB3.out.size))
  have HG3 := Lib.hid (HG3.out.below hb4)
  have HW := Lib.hid (HW.out.below hb4)
  clear hb4
  cases b with
  | false =>
    go_wp2_with fail
    refine (sameTexts_yes _ _ _ _ L us _ HL.out (by unfold maxLen; omega) HG3.out HW.out).mono ?_
    rintro e w5 ⟨rfl, hb5⟩
    have HB5 := Lib.hid (HB4.out.trans (hb5.mono HB4.out.size))
    clear hb5
    go_wp2
    go_ret
    exact ⟨rfl, HB5.out⟩
  | true =>
    obtain rfl : L0 = us := HUS.out
    have hk1 : 1 ≤ k := by
      have := HB.out
      unfold inR at this
      simp only [Bool.and_eq_true, decide_eq_true_eq] at this
      omega
    obtain ⟨hA, hF, hC⟩ := check_walk (k := k) (m := m) (us := L0) hk1 hk3 hm1 hm4 HL0.out
    rw [HL.out] at hC
    have hb12 : (inR 1 4 (k : Int) && inR 1 12 (m : Int)) = true := by
      unfold inR
      rw [decide_eq_true (by omega : (1 : Int) ≤ (k : Int)), decide_eq_true (by omega : (k : Int) ≤ 4), decide_eq_true (by omega : (1 : Int) ≤ (m : Int)), decide_eq_true (by omega : (m : Int) ≤ 12)]; rfl
    have HCX : Hid (cond (inR 1 4 (k : Int) && inR 1 12 (m : Int)) (countI (k : Int).toNat (m : Int).toNat) 0 = (L : Int)) := Lib.hid (by rw [hb12]; exact hC.symm)
    have HCB := Lib.hid hb12
    have HA := Lib.hid hA
    have HF := Lib.hid hF
    clear hA hF hC hb12
    go_wp2
    go_loopw [9] (fun i wr => ∃ j : Nat, j ≤ L ∧ i = .int .i64 (j : Int) ∧ Hid (StrsAt wr ag L0) ∧ Below w.heap.size w wr) (fun i _ => L - (intOf i).toNat)
    case atStart => exact ⟨0, Nat.zero_le _, rfl, HG3, HB4.out⟩
    case round =>
      obtain ⟨j, hj, rfl, HS, hB⟩ := hrel
      by_cases hlt : j < L
      · have hkz : j < L0.length := by rw [HL.out]; exact hlt
        obtain ⟨x, rfl, hxb, hxc⟩ := HS.out.cells (by omega)
        obtain ⟨y, hy⟩ : ∃ y, L0[j] = y := ⟨_, rfl⟩
        obtain ⟨hyl, hys⟩ := HA.out y (by rw [← hy]; exact List.getElem_mem hkz)
        have hsne : ((y.size : Int) != (m : Int)) = false := by rw [hys]; simp
        have HT : Hid (∀ W, Calls Try.prog 23 #[.string y] W fun e w' => e = .returned (.bool true) ∧ Below W.heap.size W w') := Lib.hid fun W => iLyndonIn_law (by unfold maxLen; omega) hyl
        have hck := hxc j hkz
        rw [hy] at hck
        have HXC := Lib.hid hxc
        clear hyl hxc
        cases j with
        | zero =>
          rw [show x.add 0 = x by unfold Addr.add; simp] at hck
          have v0 := hck
          have v1 := BelowBy.cell (w := wr) hxb hck
          clear hy hck
          go_wp2
          refine wp_region_below hmx (by kernel_rfl) ?_
          repeat (((with_reducible refine wpQuiet_step (fun K hK => ?_)); go_simp; first | ((with_reducible refine hK _ ?_); clear hK K) | (refine (if_neg (by decide)).mpr ?_; (with_reducible refine hK _ ?_); clear hK K) | (apply Exists.intro; (with_reducible refine ⟨fun _ => ?_, hK _ ?_⟩); (go_at_call 23; exact Calls.bel (HT.out _)); clear hK K)))
          with_reducible refine wpQuiet_nil ?_
          rintro W ⟨⟨W, hW⟩, rfl⟩
          have hBW : Below w.heap.size w W := hB.trans (hW.mono hB.size)
          have HSW := Lib.hid (HS.out.below hW)
          clear v0 v1
          change Exit.then _ _ _ _ W
          go_wp2
          go_roundw
          case rel => exact ⟨1, by omega, by go_num, HSW, hBW⟩
          case measure => simp [intOf]; omega
        | succ i =>
          obtain ⟨z, hz⟩ : ∃ z, L0[i] = z := ⟨_, rfl⟩
          have hcj := HXC.out i (by omega)
          rw [hz] at hcj
          obtain ⟨hl1, hl2⟩ := HF.out i hkz
          rw [hy, hz] at hl1 hl2
          have hjw : IntKind.i64.wrap (((i : Int) + 1) - 1) = (i : Int) := by rw [IntWalk.i64_in _ (by omega)]; omega
          have hjw2 : IntKind.i64.wrap (i : Int) = (i : Int) := IntWalk.i64_in _ (by omega)
          have v0 := BelowBy.cell (w := wr) (by show (x.add i).block < _; rw [addr_add_block]; exact hxb) hcj
          rw [show x.add (i + 1) = ⟨x.block, x.off + (i + 1), none⟩ by unfold Addr.add; simp] at hck
          have v1 := BelowBy.cell (w := wr) (show (⟨x.block, x.off + (i + 1), none⟩ : Addr).block < wr.heap.size from hxb) hck
          have hlti : (i : Int) + 1 < (L : Int) := by omega
          have hge1 : (0 : Int) ≤ (i : Int) + 1 := by omega
          have hlj : i < L := by omega
          clear hy hz hcj hck
          go_wp2
          refine wp_region_below hmx (by kernel_rfl) ?_
          repeat (((with_reducible refine wpQuiet_step (fun K hK => ?_)); go_simp; first | ((with_reducible refine hK _ ?_); clear hK K) | (refine (if_neg (by decide)).mpr ?_; (with_reducible refine hK _ ?_); clear hK K) | (apply Exists.intro; (with_reducible refine ⟨fun _ => ?_, hK _ ?_⟩); (go_at_call 23; exact Calls.bel (HT.out _)); clear hK K)))
          with_reducible refine wpQuiet_nil ?_
          rintro W ⟨⟨W, hW⟩, rfl⟩
          have hBW : Below w.heap.size w W := hB.trans (hW.mono hB.size)
          have HSW := Lib.hid (HS.out.below hW)
          clear v0 v1
          change Exit.then _ _ _ _ W
          go_wp2
          go_roundw
          case rel => exact ⟨i + 2, by omega, by go_num, HSW, hBW⟩
          case measure => simp [intOf]; omega
      · obtain rfl : j = L := by omega
        go_wp2_with fail
        refine (iLyndonCount_law HCX.out HCB.out).mono ?_
        rintro e w6 ⟨rfl, hb6⟩
        have hB6 : Below w.heap.size w w6 := hB.trans (hb6.mono hB.size)
        clear hb6
        go_wp2
        go_ret
        exact ⟨rfl, hB6⟩

set_option maxRecDepth 100000 in
theorem lifted (os : Os) (started : os.Started) (H : Type) (enc : TypeId × Value → H) :
    ReturnsInHanded {} Try.checked os 13 .any (Rows.fnLyndonListSpec.pre6 enc Try.prog Try.f13 Rows.fnLyndonListRow.domain false) (Rows.fnLyndonListSpec.post enc Try.prog Try.f13 false true false false) := by
  refine returnsInHanded_of_change (C := Try.checked) own started (by kernel_rfl) Try.func13
    (ChangeSpec.witness6 (enc := enc) (C := Try.checked) false ⟨#[], #[.slice none 0 0], []⟩ 8 (by kernel_rfl) (by kernel_rfl) (by kernel_rfl) (by kernel_rfl)) ?_
  intro W base args ds gs before hval0 hW hcnd _
  have hval : ∀ (j : Nat) t v, Try.f13.params[j]? = some t → args[j]? = some v → Value.okWide Try.prog W .any base t v := hval0
  have hW' := hW
  obtain ⟨p, q, hA0, hV, rfl, hfz, hnd⟩ := hW
  have hA : DataW.TrodAll enc Try.prog W 0 (fun _ => true) true Try.f13.params.toList args.toList ds p := hA0
  rw [Try.params13] at hA hval
  obtain ⟨v0, vs0, d0, ds0, p0, q0, hargs, rfl, rfl, h0, r0⟩ := trodAll_cons hA
  obtain ⟨rfl, rfl, rfl⟩ := trodAll_nil r0
  obtain rfl : args = #[v0] := by cases args; simp_all
  obtain ⟨rfl, rfl⟩ := trodVars_none hV
  obtain ⟨a0, len0, cap0, rfl⟩ := okWide_slice Try.underlying39 (hval 0 39 v0 rfl rfl)
  have k0 := h0
  have lt0 : ∀ x ∈ p0, x.block < W.heap.size := by obtain ⟨m, hm⟩ := k0; exact DataW.trod_lt m _ _ _ hm
  obtain ⟨z0, w0⟩ : ∃ zs, BsAt W.heap.size W a0 len0 cap0 zs := by
    obtain ⟨fuel, hf⟩ := h0
    exact bs_of hf
  clear hA0 hval0
  refine (walk a0 len0 cap0 z0 W w0).mono fun e W' ⟨he, bel⟩ => ?_
  subst he
  exact ⟨_, rfl, _, _, _, [], _, [], hW', trodAll_mk1 (shut_bool Try.underlying4 _), (trodAll_cons_mk (Below.trod laidOut (by kernel_rfl) (of_decide_eq_true (by kernel_rfl)) k0 bel lt0) trodAll_mk0), rfl, bel.frame _, fun h => by cases h⟩

theorem over : Rows.fnLyndonListRow.holds Try.pinned (OpenSpec.ofChange Rows.fnLyndonListSpec) :=
  OpenClaim.holds_of_wide 13 Try.f13 rfl rfl rfl rfl rfl rfl rfl ⟨rfl, rfl, rfl, rfl, rfl⟩ rfl rfl rfl rfl rfl (by kernel_rfl) Try.func13 (by kernel_rfl)
    (of_decide_eq_true (by kernel_rfl)) (by unfold Func.isWrapper; first | (rw [if_pos (by decide +kernel)]; kernel_rfl) | (rw [if_neg (by decide +kernel)]; exact ⟨rfl, rfl⟩))
    (fun os started H enc _ => lifted os started H enc)

theorem proved : Rows.FnLyndonListSaid := over
#print axioms proved
end Go.Proofs.Ytdhmicpoigoleaa.LLyndonListP

/-
  Proves 'Rows.FnChainSaid': for every list of bytes, the derivative of what comes of putting the words that the model draws from it in the place of the drawn word's letters goes by the chain rule.
  Conditions: none beyond the row's own.
-/
import Derived.Test.YtebgcebjlbhjjabRows
import Derived.WalkKit
import Derived.ProofKit
import Derived.OpenShut
import Derived.ShutString
import Derived.ChangeOld
import Derived.Below
import Derived.Test.YtebgcebjlbhjjabBa
import Derived.Test.YtebgcebjlbhjjabBb
import Derived.Test.YtebgcebjlbhjjabBc
import Derived.Test.YtebgcebjlbhjjabBd
import Derived.Test.YtebgcebjlbhjjabBe

namespace Go.Proofs.Ytebgcebjlbhjjab.LChain
open Go.ChangeShapes Go.WideShapes Go.ChangeAt Go.RowKit
open Go.ChangeMaps (open_string shut_string)
set_option linter.unusedVariables false

theorem own : ownKnob Try.prog.godebug = none := by kernel_rfl
theorem laidOut : laidOutB Try.prog = true := by kernel_rfl

set_option maxRecDepth 100000 in
set_option maxHeartbeats 10000000 in
theorem walk (a0 : Option Addr) (len0 cap0 : Nat) (z0 : List Int) (w : World) (w0 : BsAt w.heap.size w a0 len0 cap0 z0) :
    Calls Try.prog 4 #[.slice a0 len0 cap0] w fun e w' => e = .returned (.bool true) ∧ Below w.heap.size w w' := by
  have HDr := Lib.hid (drawWordPut_any a0 len0 cap0 z0 w w0)
  have hfit := w0.fit
  unfold maxLen at hfit
  clear w0
  by_cases hlong : ¬ len0 ≤ 1048576
  · have hd : decide ((1048576 : Int) < (len0 : Int)) = true := decide_eq_true (by omega)
    go_enter Try.func4, Try.ntmps4
    go_wp2_with fail
    go_ret
    exact ⟨rfl, Below.refl _ _⟩
  have hd : decide ((1048576 : Int) < (len0 : Int)) = false := decide_eq_false (by omega)
  go_enter Try.func4, Try.ntmps4
  go_wp2_with fail
  refine HDr.out.mono ?_
  rintro e w1 ⟨⟨s, v, rfl, hs, g, c, n, zs, rfl, hg, hS, hn, hz4⟩, hb1⟩
  have HS1 := Lib.hid hS
  have HB1 := Lib.hid hb1
  have hsm : s.size ≤ maxLen := by unfold maxLen; omega
  have hnm : n ≤ maxLen := by unfold maxLen; omega
  clear hS hb1
  by_cases hw : ¬ (wordB s.data.toList = true ∧ fourB zs = true)
  · have HW := Lib.hid hw
    have HLN := Lib.hid HS1.out.len
    clear hw
    go_wp2_with fail
    refine (iPut_no s _ g c n zs _ hsm hnm HS1.out HW.out).mono ?_
    rintro e w2 ⟨rfl, hb2⟩
    have HS2 := Lib.hid (HS1.out.below hb2)
    have HB2 := Lib.hid (HB1.out.trans (hb2.mono HB1.out.size))
    clear hb2
    go_wp2_with fail
    refine (sPut_no s _ c n zs _ hsm HLN.out hnm HS2.out.at_ HW.out).mono ?_
    rintro e w3 ⟨rfl, hb3⟩
    have HB3 := Lib.hid (HB2.out.trans (hb3.mono HB2.out.size))
    clear hb3
    go_wp2
    go_ret
    exact ⟨rfl, HB3.out⟩
  obtain ⟨hws, hf⟩ := Decidable.not_not.1 hw
  obtain ⟨hzl, hzw⟩ := (fourB_iff zs).1 hf
  obtain ⟨_, hl, _⟩ := (wordB_iff _).1 hws
  have hns := toList_size s
  obtain rfl : n = 4 := by have := HS1.out.len; omega
  have hpl := put_let zs hzw s.data.toList
  have hlen : (putL zs s.data.toList).length ≤ 4 * 7 := by
    have h1 : ∀ l : List UInt8, letL l = true → (putL zs l).length ≤ 4 * l.length := fun l => by
      induction l with
      | nil => intro _; simp [putL]
      | cons x r ih =>
        intro h
        rw [letL_cons, Bool.and_eq_true] at h
        have e2 : putL zs (x :: r) = imgL zs x ++ putL zs r := by simp [putL]
        have h3 := ih h.2
        have h4 : (imgL zs x).length ≤ 4 := by
          have hi := idxB_lt x h.1
          have h5 : (zs.getD (idxB x) ByteArray.empty) ∈ zs := by
            rw [List.getD_eq_getElem?_getD, List.getElem?_eq_getElem (by omega)]; exact List.getElem_mem _
          have h6 := hz4 _ h5
          have h7 := toList_size (zs.getD (idxB x) ByteArray.empty)
          unfold imgL
          split
          · rw [backL_length]; omega
          · omega
        rw [e2, List.length_append, List.length_cons]; omega
    have := h1 _ hl
    omega
  obtain ⟨o, ho⟩ := is_of (redL [] (putL zs s.data.toList))
  have hos := is_red_size ho
  have how := word_of_is hpl ho (by omega)
  have hom : o.size ≤ maxLen := by unfold maxLen; omega
  obtain ⟨due, hdue⟩ : ∃ us, canonT (foxL 0 1 o.data.toList) = us := ⟨_, rfl⟩
  obtain ⟨kd, hkd⟩ : ∃ k, due.length = k := ⟨_, rfl⟩
  have hfin : ∀ us : List Tm, Canon us → Same us (chainN zs s 4) → us = due := fun us hc hsm => by
    rw [← hdue, ← canon_id hc]
    exact (hsm.trans (chain_same zs hzl hzw hws ho how).symm).eq
  have HWS := Lib.hid hws
  have HF := Lib.hid hf
  have HO := Lib.hid ho
  have HOW := Lib.hid how
  have HFO : Hid (foxOfB o 0 = true) := Lib.hid (foxOfB_iff.2 ⟨how, by omega, by omega⟩)
  have HD : Hid (cond true (canonT (foxL 0 1 o.data.toList)) [] = due) := Lib.hid hdue
  have HKD := Lib.hid hkd
  have HFin := Lib.hid hfin
  have HZL := Lib.hid hzl
  have HZW := Lib.hid hzw
  have ho60 : o.size ≤ 60 := by omega
  clear hw hws hf hzl hzw hl hns hpl hlen ho hos how hdue hkd hfin hz4
  go_wp2_with fail
  refine (iPut_t HS1.out HWS.out HF.out HO.out ho60).mono ?_
  rintro e w2 ⟨rfl, hb2⟩
  have HS2 := Lib.hid (HS1.out.below hb2)
  have HB2 := Lib.hid (HB1.out.trans (hb2.mono HB1.out.size))
  clear hb2
  go_wp2_with fail
  refine (sPut_t HS2.out.at_ HWS.out HF.out HO.out ho60).mono ?_
  rintro e w3 ⟨rfl, hb3⟩
  have HS := Lib.hid (HS2.out.below hb3)
  have HB3 := Lib.hid (HB2.out.trans (hb3.mono HB2.out.size))
  clear hb3
  go_wp2_with fail
  refine (iFoxOf_t hom HFO.out HD.out HKD.out).mono ?_
  rintro e w4 ⟨⟨a4, c4, rfl, h4⟩, hb4⟩
  have HS := Lib.hid (HS.out.below hb4)
  have H4 := Lib.hid h4
  have HB4 := Lib.hid (HB3.out.trans (hb4.mono HB3.out.size))
  clear h4 hb4
  have hba : Below w4.heap.size w4 (w4.alloc (.cells #[] TI)) := (Below.refl _ w4).alloc (Nat.le_refl _) _
  have HBA := Lib.hid hba
  have HE : Hid (TermsIn (w4.alloc (.cells #[] TI)) (some ⟨w4.heap.size, 0, none⟩) 0 0 []) := Lib.hid (termsIn_some ⟨rfl, Nat.zero_le _, fun h => absurd h (Nat.lt_irrefl _), fun t ht => by cases ht⟩)
  clear hba
  go_wp2_with fail
  go_loopw [11, 12] (fun v i wr => ∃ (k m c2 : Nat) (a2 : Option Addr) (us : List Tm), v = .slice a2 m c2 ∧ k ≤ 4 ∧ i = .int .i64 k ∧ Hid (TermsIn wr a2 m c2 us ∧ Canon us ∧ Same us (chainN zs s k)) ∧ Hid (Below w4.heap.size w4 wr)) (fun _ i _ => 4 - (intOf i).toNat)
  case atStart => exact ⟨0, 0, 0, _, [], rfl, Nat.zero_le _, rfl, Lib.hid ⟨HE.out, ⟨List.Pairwise.nil, fun t ht => by cases ht⟩, Same.refl _⟩, HBA⟩
  case round =>
    obtain ⟨k, m, c2, a2, us, rfl, hk, rfl, HU, HB5⟩ := hrel
    obtain ⟨w5, rfl⟩ : ∃ w5 : World, w5 = wr := ⟨_, rfl⟩
    have H4 := Lib.hid (H4.out.below HB5.out)
    have HS := Lib.hid (HS.out.below HB5.out)
    by_cases hlt : k < 4
    · have hki : (k : Int) < 4 := by omega
      have HUS := Lib.hid HU.out.1
      obtain ⟨z, hz⟩ : ∃ z, zs.getD k ByteArray.empty = z := ⟨_, rfl⟩
      have hzw : wordB z.data.toList = true := by rw [← hz]; exact img_word zs HZL.out HZW.out hlt
      have hzm : z.size ≤ maxLen := by have := ((wordB_iff _).1 hzw).1; rw [toList_size] at this; unfold maxLen; omega
      have hzk : ∀ h : k < zs.length, zs[k] = z := fun h => by
        rw [← hz, List.getD_eq_getElem?_getD, List.getElem?_eq_getElem h]; rfl
      obtain ⟨ds, hds⟩ : ∃ us, canonT (foxL (k : Int) 1 s.data.toList) = us := ⟨_, rfl⟩
      obtain ⟨k1, hk1⟩ : ∃ k, ds.length = k := ⟨_, rfl⟩
      obtain ⟨bp, hbp⟩ : ∃ b, sumPutB ds zs = b := ⟨_, rfl⟩
      obtain ⟨es, hes⟩ : ∃ us, cond bp (canonT (ds.map (mapT (putF zs)))) [] = us := ⟨_, rfl⟩
      obtain ⟨k2, hk2⟩ : ∃ k, es.length = k := ⟨_, rfl⟩
      obtain ⟨fs, hfs⟩ : ∃ us, canonT (foxL 0 1 z.data.toList) = us := ⟨_, rfl⟩
      obtain ⟨k3, hk3⟩ : ∃ k, fs.length = k := ⟨_, rfl⟩
      obtain ⟨bx, hbx⟩ : ∃ b, prodB es fs = b := ⟨_, rfl⟩
      obtain ⟨xs, hxs⟩ : ∃ us, cond bx (canonT (pairsT es fs)) [] = us := ⟨_, rfl⟩
      obtain ⟨k4, hk4⟩ : ∃ k, xs.length = k := ⟨_, rfl⟩
      obtain ⟨bn, hbn⟩ : ∃ b, addB us xs = b := ⟨_, rfl⟩
      obtain ⟨ns, hns⟩ : ∃ us', cond bn (canonT (us ++ xs)) [] = us' := ⟨_, rfl⟩
      obtain ⟨k5, hk5⟩ : ∃ k, ns.length = k := ⟨_, rfl⟩
      have hnext : bp = true → bx = true → bn = true → Canon ns ∧ Same ns (chainN zs s (k + 1)) := fun e1 e2 e3 => by
        subst e1 e2 e3
        have hes' : canonT (ds.map (mapT (putF zs))) = es := hes
        have hxs' : canonT (pairsT es fs) = xs := hxs
        have hns' : canonT (us ++ xs) = ns := hns
        rw [← hns']
        refine ⟨(canonT_spec _).1, (Same.canon _).trans ?_⟩
        rw [chainN_succ]
        refine HU.out.2.2.append ?_
        rw [← hxs']
        refine (Same.canon _).trans ?_
        unfold chainT
        rw [hz]
        refine Same.pairs ?_ (by rw [← hfs]; exact Same.canon _)
        rw [← hes', ← hds]
        exact (Same.canon _).trans ((Same.canon _).map _)
      have HF1 : Hid (foxOfB s (k : Int) = true) := Lib.hid (foxOfB_iff.2 ⟨HWS.out, by omega, by omega⟩)
      have HF2 : Hid (foxOfB z 0 = true) := Lib.hid (foxOfB_iff.2 ⟨hzw, by omega, by omega⟩)
      have HD1 : Hid (cond true (canonT (foxL (k : Int) 1 s.data.toList)) [] = ds) := Lib.hid hds
      have HD2 : Hid (cond true (canonT (foxL 0 1 z.data.toList)) [] = fs) := Lib.hid hfs
      have HK1 := Lib.hid hk1
      have HK2 := Lib.hid hk2
      have HK3 := Lib.hid hk3
      have HK4 := Lib.hid hk4
      have HK5 := Lib.hid hk5
      have HP1 := Lib.hid hbp
      have HP2 := Lib.hid hbx
      have HP3 := Lib.hid hbn
      have HES := Lib.hid hes
      have HXS := Lib.hid hxs
      have HNS := Lib.hid hns
      have HNext := Lib.hid hnext
      have HZK := Lib.hid hzk
      clear hz hzw hzk hds hk1 hbp hes hk2 hfs hk3 hbx hxs hk4 hbn hns hk5 hnext
      go_wp2_with fail
      refine (iFoxOf_t hsm HF1.out HD1.out HK1.out).mono ?_
      rintro e w6 ⟨⟨a6, c6, rfl, h6⟩, hb6⟩
      have HS := Lib.hid (HS.out.below hb6)
      have H4 := Lib.hid (H4.out.below hb6)
      have HUS := Lib.hid (HUS.out.below hb6)
      have H6 := Lib.hid h6
      have HB6 := Lib.hid (HB5.out.trans (hb6.mono HB5.out.size))
      clear h6 hb6
      go_wp2_with fail
      refine (iSumPut_a H6.out HS.out HF.out HP1.out HES.out HK2.out).mono ?_
      rintro e w7 ⟨⟨a7, c7, rfl, h7⟩, hb7⟩
      have HS := Lib.hid (HS.out.below hb7)
      have H4 := Lib.hid (H4.out.below hb7)
      have HUS := Lib.hid (HUS.out.below hb7)
      have H7 := Lib.hid h7
      have HB7 := Lib.hid (HB6.out.trans (hb7.mono HB6.out.size))
      clear h7 hb7
      have hck := HS.out.cells k (by rw [HZL.out]; exact hlt)
      rw [HZK.out (by rw [HZL.out]; exact hlt)] at hck
      go_wp2_with fail
      refine (iFoxOf_t hzm HF2.out HD2.out HK3.out).mono ?_
      rintro e w8 ⟨⟨a8, c8, rfl, h8⟩, hb8⟩
      have HS := Lib.hid (HS.out.below hb8)
      have H4 := Lib.hid (H4.out.below hb8)
      have HUS := Lib.hid (HUS.out.below hb8)
      have H7 := Lib.hid (H7.out.below hb8)
      have H8 := Lib.hid h8
      have HB8 := Lib.hid (HB7.out.trans (hb8.mono HB7.out.size))
      clear h8 hb8
      clear hck
      go_wp2_with fail
      refine (iSumTimes_t H7.out H8.out HP2.out HXS.out HK4.out).mono ?_
      rintro e w9 ⟨⟨a9, c9, rfl, h9⟩, hb9⟩
      have HS := Lib.hid (HS.out.below hb9)
      have H4 := Lib.hid (H4.out.below hb9)
      have HUS := Lib.hid (HUS.out.below hb9)
      have H9 := Lib.hid h9
      have HB9 := Lib.hid (HB8.out.trans (hb9.mono HB8.out.size))
      clear h9 hb9
      go_wp2_with fail
      refine (iSumAdd_t HUS.out H9.out HP3.out HNS.out HK5.out).mono ?_
      rintro e w10 ⟨⟨a10, c10, rfl, h10⟩, hb10⟩
      have HS := Lib.hid (HS.out.below hb10)
      have H4 := Lib.hid (H4.out.below hb10)
      have H10 := Lib.hid h10
      have HB10 := Lib.hid (HB9.out.trans (hb10.mono HB9.out.size))
      clear h10 hb10
      have HB11 := Lib.hid (HB4.out.trans (HB10.out.mono HB4.out.size))
      cases bp with
      | false =>
        go_wp2
        go_ret
        exact ⟨rfl, HB11.out⟩
      | true =>
        cases bx with
        | false =>
          go_wp2
          go_ret
          exact ⟨rfl, HB11.out⟩
        | true =>
          cases bn with
          | false =>
            go_wp2
            go_ret
            exact ⟨rfl, HB11.out⟩
          | true =>
            go_wp2
            go_roundw
            case rel => exact ⟨k + 1, k5, _, _, ns, rfl, by omega, by go_num, Lib.hid ⟨H10.out, HNext.out (by trivial) (by trivial) (by trivial)⟩, HB10⟩
            case measure => simp [intOf]; omega
    · obtain rfl : k = 4 := by omega
      obtain rfl : us = due := HFin.out us HU.out.2.1 HU.out.2.2
      have HUS := Lib.hid HU.out.1
      obtain rfl : m = kd := by rw [← HUS.out.len]; exact HKD.out
      have HB5 := Lib.hid (HB4.out.trans (HB5.out.mono HB4.out.size))
      go_wp2_with fail
      refine (sameSum_t HUS.out H4.out).mono ?_
      rintro e w6 ⟨rfl, hb6⟩
      have HB6 := Lib.hid (HB5.out.trans (hb6.mono HB5.out.size))
      clear hb6
      go_wp2
      go_ret
      exact ⟨rfl, HB6.out⟩

set_option maxRecDepth 100000 in
theorem lifted (os : Os) (started : os.Started) (H : Type) (enc : TypeId × Value → H) :
    ReturnsInHanded {} Try.checked os 4 .any (Rows.fnChainSpec.pre6 enc Try.prog Try.f4 Rows.fnChainRow.domain false) (Rows.fnChainSpec.post enc Try.prog Try.f4 false true false false) := by
  refine returnsInHanded_of_change (C := Try.checked) own started (by kernel_rfl) Try.func4
    (ChangeSpec.witness6 (enc := enc) (C := Try.checked) false ⟨#[], #[.slice none 0 0], []⟩ 8 (by kernel_rfl) (by kernel_rfl) (by kernel_rfl) (by kernel_rfl)) ?_
  intro W base args ds gs before hval0 hW hcnd _
  have hval : ∀ (j : Nat) t v, Try.f4.params[j]? = some t → args[j]? = some v → Value.okWide Try.prog W .any base t v := hval0
  have hW' := hW
  obtain ⟨p, q, hA0, hV, rfl, hfz, hnd⟩ := hW
  have hA : DataW.TrodAll enc Try.prog W 0 (fun _ => true) true Try.f4.params.toList args.toList ds p := hA0
  rw [Try.params4] at hA hval
  obtain ⟨v0, vs0, d0, ds0, p0, q0, hargs, rfl, rfl, h0, r0⟩ := trodAll_cons hA
  obtain ⟨rfl, rfl, rfl⟩ := trodAll_nil r0
  obtain rfl : args = #[v0] := by cases args; simp_all
  obtain ⟨rfl, rfl⟩ := trodVars_none hV
  obtain ⟨a0, len0, cap0, rfl⟩ := okWide_slice Try.underlying22 (hval 0 22 v0 rfl rfl)
  have k0 := h0
  have lt0 : ∀ x ∈ p0, x.block < W.heap.size := by obtain ⟨m, hm⟩ := k0; exact DataW.trod_lt m _ _ _ hm
  obtain ⟨z0, w0⟩ : ∃ zs, BsAt W.heap.size W a0 len0 cap0 zs := by
    obtain ⟨fuel, hf⟩ := h0
    exact bs_of hf
  clear hA0 hval0
  refine (walk a0 len0 cap0 z0 W w0).mono fun e W' ⟨he, bel⟩ => ?_
  subst he
  exact ⟨_, rfl, _, _, _, [], _, [], hW', trodAll_mk1 (shut_bool Try.underlying4 _), (trodAll_cons_mk (Below.trod laidOut (by kernel_rfl) (of_decide_eq_true (by kernel_rfl)) k0 bel lt0) trodAll_mk0), rfl, bel.frame _, fun h => by cases h⟩

theorem over : Rows.fnChainRow.holds Try.pinned (OpenSpec.ofChange Rows.fnChainSpec) :=
  OpenClaim.holds_of_wide 4 Try.f4 rfl rfl rfl rfl rfl rfl rfl ⟨rfl, rfl, rfl, rfl, rfl⟩ rfl rfl rfl rfl rfl (by kernel_rfl) Try.func4 (by kernel_rfl)
    (of_decide_eq_true (by kernel_rfl)) (by unfold Func.isWrapper; first | (rw [if_pos (by decide +kernel)]; kernel_rfl) | (rw [if_neg (by decide +kernel)]; exact ⟨rfl, rfl⟩))
    (fun os started H enc _ => lifted os started H enc)

theorem proved : Rows.FnChainSaid := over
#print axioms proved
end Go.Proofs.Ytebgcebjlbhjjab.LChain

/- The contracts of the closure that 'action' makes, and of 'on'. -/
import Derived.Test.YtaaeiogdhmiaaaaCx
namespace Go.Proofs.Ytaaeiogdhmiaaaa
open Go.RowKit Go.Shelf

attribute [local go_sem] Oper.semAt_some

theorem put_acts (c : UInt8) (hc : brB c = true) (l : List UInt8) : redX [] (l.map (imgX (bImg c))).flatten = actS c l := by
  have := letL_putX (bImg c) l (bImg_word hc)
  have e := (putX_eq (bImg c) l (bImg_word hc)).1
  unfold actS
  rw [← e]
  unfold putX at this ⊢
  exact redX_eq _ _ this
theorem actS_len (c : UInt8) (hc : brB c = true) (l : List UInt8) (h : l.length ≤ 60) : (actS c l).length ≤ 3600 := by
  have h1 := redL_len (putL (bImg c) l) []
  have h2 := putX_len (bImg c) l (bImg_word hc)
  rw [(putX_eq (bImg c) l (bImg_word hc)).1] at h2
  have h3 : l.length * 60 ≤ 60 * 60 := Nat.mul_le_mul h (Nat.le_refl _)
  unfold actS
  simp only [List.length_nil] at h1
  omega

set_option maxRecDepth 100000 in
set_option maxHeartbeats 1000000 in
theorem act_any (c : UInt8) (hc : brB c = true) (g k cap bx gi : Nat) (l : List UInt8) (w : World) (hk : l.length = k) (hk60 : k ≤ 60) (hl : letL l = true)
    (hw : IsWord w.heap.size w (.slice (some ⟨g, 0, none⟩) k cap) l) (hb : Boxed w bx 99 (.slice (some ⟨gi, 0, none⟩) 4 4)) (hf : FourY gi w (bImg c)) :
    Calls Try.prog 132 #[.slice (some ⟨g, 0, none⟩) k cap, .pointer (some ⟨bx, 0, none⟩)] w fun e w' =>
      ∃ g' cap', e = .returned (.slice (some ⟨g', 0, none⟩) (actS c l).length cap') ∧ w'.ownsRow w.heap.size 77 1 (.slice (some ⟨g', 0, none⟩) (actS c l).length cap') (actS c l).length (bytesV (actS c l)) ∧ Below w.heap.size w w' := by
  have hp := (callsIn_wide (n := 40)).1 (wordPut_in 40 (by omega) g k cap gi 4 0 l (bImg c) w hk hk60 hl hw (bImg_ok hc).1 (bImg_word hc) hf.four)
  rw [put_acts c hc l] at hp
  have HP := Lib.hid hp
  have hbc := hb.cell
  clear hp hb hf hw hl hc
  go_enter Try.func132, Try.ntmps132
  go_wp2_with fail
  refine HP.out.mono ?_
  rintro e w1 ⟨g', m, cap', rfl, rfl, hown, hb1⟩
  have HO := Lib.hid hown
  clear hown
  go_wp2_with fail
  refine bodyPost_ret (v := .slice (some ⟨g', 0, none⟩) (actS c l).length cap') ?_ rfl ⟨g', cap', rfl, HO.out, hb1⟩
  simp [results, Try.results132, go_sem]

/-- What 'on' hands back. -/
def OnR (r : Option (List UInt8)) (e : Ending) (w' : World) : Prop :=
  match r with
  | none => e = .returned (.tuple #[.slice none 0 0, .bool false])
  | some l => ∃ g cap lo, e = .returned (.tuple #[.slice (some ⟨g, 0, none⟩) l.length cap, .bool true]) ∧ w'.ownsRow lo 77 1 (.slice (some ⟨g, 0, none⟩) l.length cap) l.length (bytesV l)

set_option maxRecDepth 100000 in
set_option maxHeartbeats 4000000 in
theorem on_any (cs : List UInt8) (hcs : ∀ c ∈ cs, brB c = true) (vs : List Value) (a : Option Addr) (b cap g cap1 lo : Nat) (l : List UInt8) (w : World) (hv : vs.length = cs.length) (hcs60 : cs.length ≤ 60)
    (ha : 0 < vs.length → a = some ⟨b, 0, none⟩) (hb : b < w.heap.size) (hc : ∀ i (h : i < vs.length), w.cell? ⟨b, i, none⟩ = some vs[i]) (hact : ∀ j, j < cs.length → ActY w (vs.getD j undef) (cs.getD j 0))
    (hl60 : l.length ≤ 60) (hl : letL l = true) (hown : w.ownsRow lo 77 1 (.slice (some ⟨g, 0, none⟩) l.length cap1) l.length (bytesV l)) :
    Calls Try.prog 80 #[.slice a vs.length cap, .slice (some ⟨g, 0, none⟩) l.length cap1] w fun e w' => OnR (actL cs l) e w' ∧ Below w.heap.size w w' := by
  obtain ⟨n, hn⟩ : ∃ n, vs.length = n := ⟨_, rfl⟩
  have HCS := Lib.hid hcs
  have HC := Lib.hid hc
  have HAct := Lib.hid hact
  have HL := Lib.hid hl
  have HO := Lib.hid hown
  have HV := Lib.hid hv
  rw [hn] at ha hv ⊢
  have hn60 : n ≤ 60 := by omega
  have HN := Lib.hid hn
  have HNC := Lib.hid hv
  clear hn hv
  obtain ⟨k0, hk0⟩ : ∃ k0, l.length = k0 := ⟨_, rfl⟩
  have HK0 := Lib.hid hk0
  have h0 : ∃ (x' : Value) (g cap lo : Nat) (l' : List UInt8), Value.slice (some ⟨g, 0, none⟩) k0 cap1 = x' := ⟨_, 0, 0, 0, [], rfl⟩
  clear hcs hc hact hl hown h0
  go_enter Try.func80, Try.ntmps80
  rw [hk0]
  go_wp2
  go_loopw [1, 7, 10] (fun x u i wr => ∃ (k : Nat) (u' : Value) (g' cap' lo' : Nat) (l' : List UInt8), k ≤ n ∧ i = .int .i64 (k : Int) ∧ u = u' ∧ x = .slice (some ⟨g', 0, none⟩) l'.length cap' ∧ l'.length ≤ 60 ∧ letL l' = true ∧ wr.ownsRow lo' 77 1 (.slice (some ⟨g', 0, none⟩) l'.length cap') l'.length (bytesV l') ∧ Hid (actL (cs.drop k) l' = actL cs l) ∧ Below w.heap.size w wr) (fun _ _ i _ => n - (intOf i).toNat)
  case atStart => exact ⟨0, _, g, cap1, lo, l, by omega, rfl, rfl, by rw [hk0], hl60, HL.out, HO.out, Lib.hid rfl, Below.refl _ _⟩
  case round =>
    obtain ⟨k, u', g', cap', lo', l', hk, rfl, rfl, rfl, hl60', hl', hown', HR, hB⟩ := hrel
    have hwr := hB.size
    by_cases hlt : k < n
    · obtain rfl := ha (by omega)
      have hkv : k < vs.length := by rw [HN.out]; exact hlt
      have hck : wr.cell? ⟨b, k, none⟩ = some vs[k] := (hB.cell (p := ⟨b, k, none⟩) hb).trans (HC.out k hkv)
      have hak := (HAct.out k (by rw [← HNC.out]; exact hlt)).below hB
      have hgd : vs.getD k undef = vs[k] := by rw [List.getD_eq_getElem?_getD, List.getElem?_eq_getElem hkv]; rfl
      obtain ⟨c, hcc⟩ : ∃ c, cs.getD k 0 = c := ⟨_, rfl⟩
      have hkc : k < cs.length := by rw [← HNC.out]; exact hlt
      have hcd : cs.drop k = c :: cs.drop (k + 1) := by
        rw [List.drop_eq_getElem_cons hkc, ← hcc, List.getD_eq_getElem?_getD, List.getElem?_eq_getElem hkc]; rfl
      have hbr : brB c = true := HCS.out c (by rw [← hcc, List.getD_eq_getElem?_getD, List.getElem?_eq_getElem hkc]; exact List.getElem_mem hkc)
      rw [hgd, hcc] at hak
      obtain ⟨bx, gi, hva, hbx, hfy⟩ := hak
      rw [hva] at hck
      have HCall := Lib.hid (act_any c hbr g' l'.length cap' bx gi l' wr rfl hl60' hl' (isWord_of_owns (n₀ := wr.heap.size) rfl (by omega) hown' (Nat.le_refl _)) hbx hfy)
      have HLen := actS_len c hbr l' hl60'
      have HLet := Lib.hid (actS_let hbr l')
      have HB := Lib.hid hB
      have HR2 : Hid ((if (actS c l').length ≤ 60 then actL (cs.drop (k + 1)) (actS c l') else none) = actL cs l) := Lib.hid (by
        have h := HR.out
        rw [hcd] at h
        exact h)
      obtain ⟨l2, hl2⟩ : ∃ l2, actS c l' = l2 := ⟨_, rfl⟩
      rw [hl2] at HCall HLen HLet HR2
      clear hown' hgd hbr hcd hva hbx hfy hB hcc hl' hl2 HR hkv hkc
      go_wp2_with fail
      refine HCall.out.mono ?_
      rintro e w1 ⟨g2, cap2, rfl, hown2, hb2⟩
      have HB2 := Lib.hid (HB.out.trans (hb2.mono hwr))
      have HO2 := Lib.hid hown2
      clear hown2 hb2
      obtain ⟨m, hm⟩ : ∃ m, l2.length = m := ⟨_, rfl⟩
      have HM := Lib.hid hm
      rw [hm] at HLen ⊢
      clear hm
      by_cases h60 : m ≤ 60
      · have HR3 := Lib.hid (show actL (cs.drop (k + 1)) l2 = actL cs l by have h := HR2.out; rw [HM.out, if_pos h60] at h; exact h)
        go_wp2
        go_roundw
        case rel =>
          exact ⟨k + 1, _, g2, cap2, _, l2, by omega, by go_num, rfl, by rw [HM.out], by rw [HM.out]; exact h60, HLet.out, HO2.out, HR3, HB2.out⟩
        case measure => simp [intOf]; omega
      · have HR3 := Lib.hid (show none = actL cs l by have h := HR2.out; rw [HM.out, if_neg h60] at h; exact h)
        go_wp2
        go_ret2
        refine ⟨?_, HB2.out⟩
        rw [← HR3.out]
        rfl
    · obtain rfl : k = n := by omega
      have HR3 := Lib.hid (show some l' = actL cs l by have h := HR.out; rw [List.drop_eq_nil_of_le (by rw [← HNC.out]; exact Nat.le_refl _)] at h; exact h)
      have HO2 := Lib.hid hown'
      obtain ⟨m, hm⟩ : ∃ m, l'.length = m := ⟨_, rfl⟩
      have HM := Lib.hid hm
      rw [hm] at hl60' ⊢
      clear hown' HR hl' hm
      go_wp2
      go_ret2
      refine ⟨?_, hB⟩
      rw [← HR3.out]
      refine ⟨g', cap', lo', ?_, HO2.out⟩
      rw [HM.out]
      rfl

end Go.Proofs.Ytaaeiogdhmiaaaa

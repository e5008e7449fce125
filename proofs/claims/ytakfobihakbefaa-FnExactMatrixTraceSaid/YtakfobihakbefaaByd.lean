/- What the laws' proofs stand on, part 4 of 4. -/
import Derived.Deep.RegionHeld3
import Derived.Test.YtakfobihakbefaaBya
import Derived.Test.YtakfobihakbefaaByb
import Derived.Test.YtakfobihakbefaaByc

/- The model's MatrixOne. -/

namespace Go.Proofs.Ytakfobihakbefaa
open Go.RowKit

set_option maxRecDepth 100000 in
set_option maxHeartbeats 2000000 in
theorem l7Zero_any (w : World) :
    Calls Try.prog 93 #[] w fun e w' => (∃ v, e = .returned (plV 0 v) ∧ IntRow w.heap.size w' v []) ∧ Below w.heap.size w w' := by
  go_enter Try.func93, Try.ntmps93
  go_wp2
  have h := World.ownsRow_made (base := w.heap.size) (e := 3) (size := 1) (w.alloc (.cells #[.int .i64 0, .slice (some ⟨w.heap.size + 1, 0, none⟩) 0 0] 25)) #[] 0 (by simp) (Nat.zero_le _) rfl
  rw [World.size_alloc] at h
  have hB : Below w.heap.size w ((w.alloc (.cells #[.int .i64 0, .slice (some ⟨w.heap.size + 1, 0, none⟩) 0 0] 25)).alloc (.cells #[] 3)) := ((Below.refl _ w).alloc (Nat.le_refl _) _).alloc (by simp) _
  refine bodyPost_ret (v := plV 0 (.slice (some ⟨w.heap.size + 1, 0, none⟩) 0 0)) ?_ rfl ⟨⟨_, rfl, h⟩, hB⟩
  simp [results, Try.results93, go_sem, plV]

set_option maxRecDepth 100000 in
set_option maxHeartbeats 8000000 in
theorem sMatrixOne_any (n : Int) (w : World) :
    Calls Try.prog 38 #[.int .i64 n] w (IM w (oneZ n)) := by
  obtain ⟨i0, hi0, hi1, hi2, hi3⟩ := info_parts infoPolyS
  obtain ⟨p0, hp0, hp1, hp2, hp3⟩ := info_parts infoPoly
  have hbA : Below w.heap.size w (w.alloc (.cells #[] PR)) := (Below.refl _ w).alloc (Nat.le_refl _) _
  have HBA := Lib.hid hbA
  have HMd := Lib.hid (OwnM.made w)
  by_cases h14 : 1 ≤ n ∧ n ≤ 4
  case neg =>
    clear hbA
    go_enter Try.func38, Try.ntmps38
    go_wp2_with fail
    refine (l6In_eq _ _ _ false _ (inR_no h14)).mono ?_
    rintro e w1 ⟨rfl, rfl⟩
    go_wp2
    go_ret2
    exact ⟨⟨_, [], by rw [oneZ_none h14]; rfl, HMd.out, by rw [oneZ_none h14]; rfl⟩, HBA.out⟩
  obtain ⟨n, rfl⟩ : ∃ j : Nat, n = (j : Int) := ⟨n.toNat, by omega⟩
  have hn4 : 1 ≤ n ∧ n ≤ 4 := by omega
  clear hbA
  go_enter Try.func38, Try.ntmps38
  go_wp2_with fail
  refine (l6In_eq _ _ _ true _ (inR_yes h14)).mono ?_
  rintro e w1 ⟨rfl, rfl⟩
  go_wp2
  go_loopw [4, 5] (fun v i wr => ∃ (k : Nat) (rs : List Rv), k ≤ n ∧ i = .int .i64 k ∧ Hid (gridO oneF n k = some (rowsOf rs)) ∧ Hid (OwnM w.heap.size wr v rs) ∧ Below w.heap.size w wr) (fun _ i _ => n - (intOf i).toNat)
  case atStart => exact ⟨0, [], Nat.zero_le _, rfl, Lib.hid rfl, HMd, HBA.out⟩
  case round =>
      obtain ⟨k, rs, hk, rfl, HG, HR, hB⟩ := hrel
      obtain ⟨U, hU⟩ : ∃ U, U = wr := ⟨_, rfl⟩
      subst hU
      by_cases hlt : k < n
      · have HBU := Lib.hid hB
        have HRM := Lib.hid (OwnR.made U)
        have hbU : Below U.heap.size U (U.alloc (.cells #[] PO)) := (Below.refl _ U).alloc (Nat.le_refl _) _
        obtain ⟨av, cv, hv⟩ := HR.out.is_slice
        have hkl := (gridO_some HG.out).1
        rw [rowsOf_len] at hkl
        rw [hkl] at hv
        have HKL := Lib.hid hkl
        clear hkl
        subst hv
        clear hB
        go_wp2
        go_loopw [6, 7] (fun u i wr => ∃ (l : Nat) (xs : List Pv), l ≤ n ∧ i = .int .i64 l ∧ Hid (rowO (oneF k) l = some (xs.map (·.p))) ∧ Hid (OwnR U.heap.size wr u xs) ∧ Below U.heap.size U wr) (fun _ i _ => n - (intOf i).toNat)
        case atStart => exact ⟨0, [], Nat.zero_le _, rfl, Lib.hid rfl, HRM, hbU⟩
        case round =>
          obtain ⟨l, xs, hl, rfl, HO, HW, hBU⟩ := hrel
          obtain ⟨au, cu, hu⟩ := HW.out.is_slice
          have hll := (rowO_some HO.out).1
          rw [List.length_map] at hll
          rw [hll] at hu
          subst hu
          have HLL := Lib.hid hll
          clear hll
          by_cases hlt2 : l < n
          · have HBUr := Lib.hid hBU
            have hUr := hBU.size
            by_cases hkl : k = l
            · have hdk : decide ((k : Int) = (l : Int)) = true := decide_eq_true (by omega)
              have hdk2 : ((k : Int) == (l : Int)) = true := beq_iff_eq.2 (by omega)
              have HP : Hid (oneF k l = some ⟨0, [1]⟩) := Lib.hid (by unfold oneF; rw [if_pos hkl])
              obtain ⟨w3, hw3⟩ : ∃ w3, wr.alloc (.cells #[.int .i64 1] 3) = w3 := ⟨_, rfl⟩
              have hb3 : Below wr.heap.size wr w3 := by rw [← hw3]; exact (Below.refl _ _).alloc (Nat.le_refl _) _
              have hr3 : IntRow wr.heap.size w3 (.slice (some ⟨wr.heap.size, 0, none⟩) 1 1) [1] := by
                rw [← hw3]
                exact World.ownsRow_lit (base := wr.heap.size) (e := 3) (size := 1) wr #[.int .i64 1] 1 (Nat.le_refl _) (by unfold maxLen; omega) rfl
              have hW3 := HW.out.below hb3
              have hrow3 := hW3.row
              rw [HLL.out] at hrow3
              have hs3 := hb3.size
              have hs4 : w3.heap.size = wr.heap.size + 1 := by rw [← hw3]; simp
              have hbA3 := hb3.trans (((Below.refl w3.heap.size w3).alloc (Nat.le_refl _) (.cells #[.int .i64 0, .slice (some ⟨wr.heap.size, 0, none⟩) 1 1] PO)).mono hs3)
              have HR3 := Lib.hid (hr3.below ((Below.refl w3.heap.size w3).alloc (Nat.le_refl _) (.cells #[.int .i64 0, .slice (some ⟨wr.heap.size, 0, none⟩) 1 1] PO)))
              have hnews : (w3.alloc (.cells #[.int .i64 0, .slice (some ⟨wr.heap.size, 0, none⟩) 1 1] PO)).heap[wr.heap.size + 1]? = some (.cells #[.int .i64 0, .slice (some ⟨wr.heap.size, 0, none⟩) 1 1] PO (0, 0)) := by
                rw [← hs4]; exact heap_alloc_new w3 _
              have hszA : (w3.alloc (.cells #[.int .i64 0, .slice (some ⟨wr.heap.size, 0, none⟩) 1 1] PO)).heap.size = wr.heap.size + 2 := by simp; omega
              have HSA := Lib.hid hszA
              have hrowA := hrow3.alloc (.cells #[.int .i64 0, .slice (some ⟨wr.heap.size, 0, none⟩) 1 1] PO)
              rw [← hw3] at hbA3 hnews hrowA HR3 HSA
              have HROWA := Lib.hid hrowA
              have HBA3 := Lib.hid hbA3
              have HNEWS := Lib.hid hnews
              clear hr3 hb3 hW3 hrow3 hbA3 hBU hw3 hnews hszA hrowA hs3 hs4 hkl
              go_wp2_with (at_builtin; refine wpList_append_lies _ rfl _ _ _ rfl U.heap.size PO p0 _ 2 32 Try.underlying38 hp0 hp1 hp2 hp3 rfl (by omega) (.slice au l cu) l (cellsP xs) rfl HROWA.out ⟨wr.heap.size + 1, 0, none⟩ 1 1 [.int .i64 0, .slice (some ⟨wr.heap.size, 0, none⟩) 1 1] rfl rfl (World.news_of_block (cs := #[.int .i64 0, .slice (some ⟨wr.heap.size, 0, none⟩) 1 1]) (t := PO) (fr := (0, 0)) HNEWS.out) (by simp [Value.oneCell']) (by omega) (by unfold maxLen; omega) (by omega) (by rw [HSA.out]; omega) (wr.heap.size + 2) HSA.out ?_; intro g1 cap1 w4 hown hgrow hat hlt4)
              have hB4 : Below U.heap.size U w4 := (HBUr.out.trans (HBA3.out.mono HBUr.out.size)).grown hgrow (Nat.le_trans HBUr.out.size HBA3.out.size) fun b e => (ownsRow_lt HROWA.out b e).1
              have HW4 := Lib.hid (HW.out.push (p := ⟨0, [1]⟩) HBA3.out HR3.out HBUr.out.size (by rw [HLL.out]; exact hown) hgrow rfl (hat.imp id fun e => by rw [e, HSA.out]; omega))
              have HO4 := Lib.hid (rowO_next (v := .slice (some ⟨wr.heap.size, 0, none⟩) 1 1) HO.out HP.out)
              clear hown hgrow hat hlt4
              go_wp2
              go_roundw
              case rel => exact ⟨l + 1, _, by omega, by go_num, HO4, HW4, hB4⟩
              case measure => simp [intOf]; omega
            · have hdk : decide ((k : Int) = (l : Int)) = false := decide_eq_false (by omega)
              have hdk2 : ((k : Int) == (l : Int)) = false := beq_eq_false_iff_ne.2 (by omega)
              have HP : Hid (oneF k l = some ⟨0, []⟩) := Lib.hid (by unfold oneF; rw [if_neg hkl]; rfl)
              clear hBU
              go_wp2_with fail
              refine (l7Zero_any wr).mono ?_
              rintro e w3 ⟨⟨v3, rfl, hr3⟩, hb3⟩
              obtain ⟨a3, _, c3, rfl, _, _, _⟩ := hr3.shape
              have hW3 := HW.out.below hb3
              have hrow3 := hW3.row
              rw [HLL.out] at hrow3
              have HROW3 := Lib.hid hrow3
              have hs3 := hb3.size
              have hbA3 := hb3.trans (((Below.refl w3.heap.size w3).alloc (Nat.le_refl _) (.cells #[.int .i64 0, .slice a3 0 c3] PO)).mono hs3)
              have HBA3 := Lib.hid hbA3
              have HR3 := Lib.hid (hr3.below ((Below.refl w3.heap.size w3).alloc (Nat.le_refl _) (.cells #[.int .i64 0, .slice a3 0 c3] PO)))
              clear hr3 hb3 hW3 hrow3 hbA3
              go_wp2_with (at_builtin; refine wpList_append_lies _ rfl _ _ _ rfl U.heap.size PO p0 _ 2 32 Try.underlying38 hp0 hp1 hp2 hp3 rfl (by omega) (.slice au l cu) l (cellsP xs) rfl (HROW3.out.alloc _) ⟨w3.heap.size, 0, none⟩ 1 1 [.int .i64 0, .slice a3 0 c3] rfl rfl (World.news_of_block (cs := #[.int .i64 0, .slice a3 0 c3]) (t := PO) (fr := (0, 0)) (heap_alloc_new w3 _)) (by simp [Value.oneCell']) (by omega) (by unfold maxLen; omega) (by omega) (by simp; omega) (w3.heap.size + 1) (by simp) ?_; intro g1 cap1 w4 hown hgrow hat hlt4)
              have hB4 : Below U.heap.size U w4 := (HBUr.out.trans (HBA3.out.mono HBUr.out.size)).grown hgrow (Nat.le_trans HBUr.out.size HBA3.out.size) fun b e => (ownsRow_lt HROW3.out b e).1
              have HW4 := Lib.hid (HW.out.push (p := ⟨0, []⟩) HBA3.out HR3.out HBUr.out.size (by rw [HLL.out]; exact hown) hgrow rfl (hat.imp id fun e => by rw [e]; simp))
              have HO4 := Lib.hid (rowO_next (v := .slice a3 0 c3) HO.out HP.out)
              clear hown hgrow hat hlt4
              go_wp2
              go_roundw
              case rel => exact ⟨l + 1, _, by omega, by go_num, HO4, HW4, hB4⟩
              case measure => simp [intOf]; omega
          · obtain rfl : l = n := by omega
            have HBUr := Lib.hid hBU
            have hUr := hBU.size
            have HRr := Lib.hid (HR.out.below hBU)
            have hrowr := HRr.out.row
            rw [HKL.out] at hrowr
            have HROW := Lib.hid hrowr
            have HWU := Lib.hid (HBU.out.size)
            clear hBU hrowr
            have hwU := HWU.out
            go_wp2_with (at_builtin; refine wpList_append_lies _ rfl _ _ _ rfl w.heap.size PR i0 _ 1 24 Try.underlying33 hi0 hi1 hi2 hi3 rfl (by omega) (.slice av k cv) k (rs.map (·.u)) rfl (HROW.out.alloc _) ⟨wr.heap.size, 0, none⟩ 1 1 [.slice au l cu] rfl rfl (World.news_of_block (cs := #[.slice au l cu]) (t := PR) (fr := (0, 0)) (heap_alloc_new wr _)) (by simp [Value.oneCell']) (by omega) (by unfold maxLen; omega) (by omega) (by simp; omega) (wr.heap.size + 1) (by simp) ?_; intro g1 cap1 w4 hown hgrow hat hlt4)
            have hbA4 : Below U.heap.size U (wr.alloc (.cells #[.slice au l cu] PR)) := HBUr.out.alloc hUr _
            have hB4 : Below w.heap.size w w4 := (HBU.out.trans (hbA4.mono HBU.out.size)).grown hgrow (Nat.le_trans HBU.out.size hbA4.size) fun b e => (ownsRow_lt HROW.out b e).1
            have HW4 := Lib.hid (HR.out.push (r := ⟨.slice au l cu, xs⟩) hbA4 (HW.out.below ((Below.refl _ wr).alloc (Nat.le_refl _) _)) HBU.out.size (by rw [HKL.out]; exact hown) hgrow rfl (hat.imp id fun e => by rw [e]; simp))
            have HG4 := Lib.hid (gridO_next (f := oneF) (u := .slice au l cu) HG.out HO.out)
            clear hown hgrow hat hlt4 hbA4
            go_wp2
            go_roundw
            case rel => exact ⟨k + 1, _, by omega, by go_num, HG4, HW4, hB4⟩
            case measure => simp [intOf]; omega
      · obtain rfl : k = n := by omega
        have HBr := Lib.hid hB
        clear hB
        go_wp2
        go_ret2
        have hF : oneZ (k : Int) = some (rowsOf rs) := by
          unfold oneZ
          rw [if_pos h14]
          exact HG.out
        exact IM.yes hF HR.out rfl HBr.out

end Go.Proofs.Ytakfobihakbefaa

/- Division, one step after the other (mathematics). -/

namespace Go.Proofs.Ytakfobihakbefaa
open Go.RowKit

/-- What comes out when so many have been found and so much is left. -/
def divFrom (bs qs : List Int) (n : Nat) (left : List Int) : Option (List Int × List Int) := (divGo bs n left).map fun p => (qs ++ p.1, p.2)
theorem divFrom_start (bs : List Int) (n : Nat) (left : List Int) : divFrom bs [] n left = divGo bs n left := by
  unfold divFrom
  cases divGo bs n left with
  | none => rfl
  | some p => rfl
theorem divFrom_step {bs qs left : List Int} {n : Nat} (h : stepB bs left = true) : divFrom bs qs (n + 1) left = divFrom bs (qs ++ [stepQ bs left]) n (subQ (stepQ bs left) bs left).tail := by
  unfold divFrom
  rw [divGo, if_pos h]
  cases divGo bs n (subQ (stepQ bs left) bs left).tail with
  | none => rfl
  | some p => simp
theorem divFrom_fail {bs qs left : List Int} {n : Nat} (h : stepB bs left = false) : divFrom bs qs (n + 1) left = none := by
  unfold divFrom
  rw [divGo, if_neg (by rw [h]; exact Bool.false_ne_true)]
  rfl
theorem divFrom_end (bs qs left : List Int) : divFrom bs qs 0 left = some (qs, left) := by
  unfold divFrom
  simp [divGo]

def LeftOK (left : List Int) : Prop := ∀ i, -4000000000000000000 ≤ left.getD i 0 ∧ left.getD i 0 ≤ 4000000000000000000
theorem step_parts {bs left : List Int} (h : stepB bs left = true) : (left.getD 0 0).tmod (bs.getD 0 0) = 0 ∧ coefIn (stepQ bs left) = true ∧ ∀ i, i < bs.length → leftIn (left.getD i 0 - stepQ bs left * bs.getD i 0) = true := by
  unfold stepB at h
  simp only [Bool.and_eq_true, decide_eq_true_eq, List.all_eq_true, List.mem_range] at h
  exact ⟨h.1, h.2.1, h.2.2⟩
theorem step_yes {bs left : List Int} (h1 : (left.getD 0 0).tmod (bs.getD 0 0) = 0) (h2 : coefIn (stepQ bs left) = true) (h3 : ∀ i, i < bs.length → leftIn (left.getD i 0 - stepQ bs left * bs.getD i 0) = true) : stepB bs left = true := by
  unfold stepB
  simp only [Bool.and_eq_true, decide_eq_true_eq, List.all_eq_true, List.mem_range]
  exact ⟨h1, h2, h3⟩
theorem step_no1 {bs left : List Int} (h1 : ¬ (left.getD 0 0).tmod (bs.getD 0 0) = 0) : stepB bs left = false := by
  cases h : stepB bs left with
  | false => rfl
  | true => exact absurd (step_parts h).1 h1
theorem step_no2 {bs left : List Int} (h2 : coefIn (stepQ bs left) = false) : stepB bs left = false := by
  cases h : stepB bs left with
  | false => rfl
  | true => rw [(step_parts h).2.1] at h2; exact absurd h2 (by decide)
theorem step_no3 {bs left : List Int} {i : Nat} (hi : i < bs.length) (h3 : leftIn (left.getD i 0 - stepQ bs left * bs.getD i 0) = false) : stepB bs left = false := by
  cases h : stepB bs left with
  | false => rfl
  | true => rw [(step_parts h).2.2 i hi] at h3; exact absurd h3 (by decide)
theorem leftIn_yes {z : Int} (h : leftIn z = true) : -4000000000000000000 ≤ z ∧ z ≤ 4000000000000000000 := by
  unfold leftIn inR at h
  simpa using h
theorem step_left {bs left : List Int} (hb : bs.length ≤ left.length) (h : stepB bs left = true) (hl : LeftOK left) : LeftOK (subQ (stepQ bs left) bs left).tail := fun i => by
  rw [tail_get, subQ_get _ _ _ _ hb]
  by_cases hi : i + 1 < bs.length
  · exact leftIn_yes ((step_parts h).2.2 (i + 1) hi)
  · rw [getD_far (l := bs) (by omega), Int.mul_zero, Int.sub_zero]
    exact hl _
theorem step_tail_len {bs left : List Int} (q : Int) {n : Nat} (h : left.length = n + 1) : (subQ q bs left).tail.length = n := by
  rw [List.length_tail, subQ_len, h]
  rfl
theorem step_head {bs left : List Int} (hb : bs.length ≤ left.length) (h : (left.getD 0 0).tmod (bs.getD 0 0) = 0) : (subQ (stepQ bs left) bs left).getD 0 0 = 0 := by
  rw [subQ_get _ _ _ _ hb]
  have e := Int.mul_tdiv_add_tmod (left.getD 0 0) (bs.getD 0 0)
  rw [h, Int.add_zero, Int.mul_comm] at e
  unfold stepQ
  omega
theorem tdiv_size {z b : Int} : -(z.natAbs : Int) ≤ z.tdiv b ∧ z.tdiv b ≤ (z.natAbs : Int) := by
  have h : (z.tdiv b).natAbs ≤ z.natAbs := by
    rw [Int.natAbs_tdiv]
    exact Nat.div_le_self _ _
  omega
theorem tmod_size {z b : Int} : -(z.natAbs : Int) ≤ z.tmod b ∧ z.tmod b ≤ (z.natAbs : Int) := by
  have h : (z.tmod b).natAbs ≤ z.natAbs := by
    rw [Int.natAbs_tmod]
    exact Nat.mod_le _ _
  omega

/-! ### The row in which what is left stands -/
def rowG (i : Nat) (left : List Int) (j : Nat) : Int := if j < i then 0 else left.getD (j - i) 0
def rowF (i k : Nat) (q : Int) (bs left : List Int) (j : Nat) : Int := if j < i then 0 else if j < i + k then left.getD (j - i) 0 - q * bs.getD (j - i) 0 else left.getD (j - i) 0
theorem rowG_zero (left : List Int) (n : Nat) (h : left.length = n) : listN (rowG 0 left) n = left := by
  subst h
  rw [listN_congr (g := fun i => left.getD i 0) (fun i _ => by unfold rowG; rw [if_neg (by omega), Nat.sub_zero]), listN_self]
theorem rowF_zero (i : Nat) (q : Int) (bs left : List Int) (n : Nat) : listN (rowF i 0 q bs left) n = listN (rowG i left) n :=
  listN_congr fun j _ => by
    unfold rowF rowG
    by_cases h : j < i
    · rw [if_pos h, if_pos h]
    · rw [if_neg h, if_neg h, if_neg (by omega)]
theorem rowF_next (i k : Nat) (q : Int) (bs left : List Int) (n : Nat) {x : Int} (hx : left.getD k 0 - q * bs.getD k 0 = x) : (intsV (listN (rowF i k q bs left) n)).set (i + k) (.int .i64 x) = intsV (listN (rowF i (k + 1) q bs left) n) :=
  listN_set (fun j hj => by
    unfold rowF
    by_cases h : j < i
    · rw [if_pos h, if_pos h]
    · rw [if_neg h, if_neg h]
      by_cases h2 : j < i + k
      · rw [if_pos h2, if_pos (by omega)]
      · rw [if_neg h2, if_neg (by omega)]) (by
    unfold rowF
    rw [if_neg (by omega), if_pos (by omega), show i + k - i = k by omega, hx])
theorem rowF_at (i k : Nat) (q : Int) (bs left : List Int) : rowF i k q bs left (i + k) = left.getD k 0 := by
  unfold rowF
  rw [if_neg (by omega), if_neg (by omega), show i + k - i = k by omega]
theorem rowG_at (i k : Nat) (left : List Int) : rowG i left (i + k) = left.getD k 0 := by
  unfold rowG
  rw [if_neg (by omega), show i + k - i = k by omega]
theorem rowF_done (i : Nat) (bs left : List Int) (n : Nat) (hb : bs.length ≤ left.length) (h : (left.getD 0 0).tmod (bs.getD 0 0) = 0) : listN (rowF i bs.length (stepQ bs left) bs left) n = listN (rowG (i + 1) (subQ (stepQ bs left) bs left).tail) n :=
  listN_congr fun j _ => by
    unfold rowF rowG
    by_cases h1 : j < i
    · rw [if_pos h1, if_pos (by omega)]
    · rw [if_neg h1]
      have e : (if j < i + bs.length then left.getD (j - i) 0 - stepQ bs left * bs.getD (j - i) 0 else left.getD (j - i) 0) = (subQ (stepQ bs left) bs left).getD (j - i) 0 := by
        rw [subQ_get _ _ _ _ hb]
        by_cases h2 : j < i + bs.length
        · rw [if_pos h2]
        · rw [if_neg h2, getD_far (l := bs) (by omega), Int.mul_zero, Int.sub_zero]
      rw [e]
      by_cases h3 : j = i
      · subst h3
        rw [if_pos (by omega), Nat.sub_self, step_head hb h]
      · rw [if_neg (by omega), tail_get, show j - (i + 1) + 1 = j - i by omega]
theorem zeroL_yes {l : List Int} (h : ∀ i, i < l.length → l.getD i 0 = 0) : zeroL l = true := by
  unfold zeroL
  rw [List.all_eq_true]
  intro z hz
  obtain ⟨i, hi, rfl⟩ := List.mem_iff_getElem.1 hz
  have := h i hi
  rw [List.getD_eq_getElem?_getD, List.getElem?_eq_getElem hi] at this
  exact decide_eq_true this
theorem zeroL_no {l : List Int} {i : Nat} (h : l.getD i 0 ≠ 0) : zeroL l = false := by
  have hi := getD_lt h
  cases e : zeroL l with
  | false => rfl
  | true =>
    unfold zeroL at e
    rw [List.all_eq_true] at e
    have := e _ (List.getElem_mem hi)
    rw [List.getD_eq_getElem?_getD, List.getElem?_eq_getElem hi] at h
    exact absurd (of_decide_eq_true this) h

theorem trim_nonzero {a : Pl} (h : Trim a) (h0 : 0 < a.cs.length) : a.cs.getD 0 0 ≠ 0 ∧ a.cs.getD (a.cs.length - 1) 0 ≠ 0 := by
  rcases h with ⟨h, _⟩ | ⟨_, h1, h2⟩
  · rw [h] at h0; exact absurd h0 (Nat.lt_irrefl _)
  · exact ⟨h1, h2⟩

/-! ### The answer -/
def dividedB (a b : Pl) : Bool := polyB a && (polyB b && (decide (0 < b.cs.length) && overB a b))
def dividedP (a b : Pl) : Pl := doneP (dividedB a b) (overP a b)
/-- What the answer is when the division has gone through. -/
def outQ (low : Int) : Option (List Int × List Int) → Option Pl
  | some p => if zeroL p.2 then some (tidyP low p.1) else none
  | none => none
theorem overQ_some {a b : Pl} (h : 0 < a.cs.length) : overQ a b = outQ (a.low - b.low) (divGo b.cs (a.cs.length + 1 - b.cs.length) a.cs) := by
  unfold overQ outQ
  rw [if_neg (by omega)] <;> cases divGo b.cs (a.cs.length + 1 - b.cs.length) a.cs <;> rfl
theorem over_none {a b : Pl} (h : overQ a b = none) : overB a b = false ∧ overP a b = ⟨0, []⟩ := by
  unfold overB overP
  rw [h]
  exact ⟨rfl, rfl⟩
theorem over_some {a b p : Pl} (h : overQ a b = some p) : overB a b = polyB p ∧ overP a b = doneP (polyB p) p := by
  unfold overB overP
  rw [h]
  exact ⟨rfl, rfl⟩
theorem divided_fit {w : World} {l1 l2 : Int} {x y : List Int} {a1 a2 : Option Addr} {n1 n2 : Nat} {b : Bool} {p : Pl} (_ : Ints w a1 n1 x) (_ : Ints w a2 n2 y) (_ : dividedB ⟨l1, x⟩ ⟨l2, y⟩ = b) (hp : dividedP ⟨l1, x⟩ ⟨l2, y⟩ = p) : p.cs.length ≤ 200 := by
  unfold dividedP at hp
  refine doneP_len (fun h => ?_) hp
  unfold dividedB at h
  simp only [Bool.and_eq_true] at h
  have h := h.2.2.2
  unfold overB at h
  unfold overP
  cases e : overQ ⟨l1, x⟩ ⟨l2, y⟩ with
  | none => rw [e] at h; exact absurd h (by decide)
  | some q =>
    rw [e] at h
    have h : polyB q = true := h
    show polyB (doneP (polyB q) q) = true
    rw [h]
    exact h

end Go.Proofs.Ytakfobihakbefaa

/- Finite sums; the coefficients of products: they go both ways, share sums, and go in any brackets. -/

namespace Go.Proofs.Ytakfobihakbefaa
open Go.RowKit

def sumN (f : Nat → Int) : Nat → Int
  | 0 => 0
  | n + 1 => sumN f n + f n
theorem sumN_congr {f g : Nat → Int} : ∀ {n : Nat}, (∀ i, i < n → f i = g i) → sumN f n = sumN g n
  | 0, _ => rfl
  | n + 1, h => by rw [sumN, sumN, sumN_congr (fun i hi => h i (by omega)), h n (by omega)]
theorem sumN_zero (n : Nat) : sumN (fun _ => 0) n = 0 := by
  induction n with
  | zero => rfl
  | succ n ih => rw [sumN, ih]; rfl
theorem sumN_none {f : Nat → Int} {n : Nat} (h : ∀ i, i < n → f i = 0) : sumN f n = 0 := by rw [sumN_congr h, sumN_zero]
theorem sumN_add (f g : Nat → Int) (n : Nat) : sumN (fun i => f i + g i) n = sumN f n + sumN g n := by
  induction n with
  | zero => rfl
  | succ n ih => rw [sumN, sumN, sumN, ih]; omega
theorem sumN_mul (c : Int) (f : Nat → Int) (n : Nat) : sumN (fun i => c * f i) n = c * sumN f n := by
  induction n with
  | zero => rw [sumN, sumN, Int.mul_zero]
  | succ n ih => rw [sumN, sumN, ih, Int.mul_add]
theorem sumN_swap (f : Nat → Nat → Int) (m : Nat) : ∀ n, sumN (fun i => sumN (fun j => f i j) m) n = sumN (fun j => sumN (fun i => f i j) n) m
  | 0 => by rw [sumN]; exact (sumN_zero m).symm
  | n + 1 => by
    rw [sumN, sumN_swap f m n, ← sumN_add]
    exact sumN_congr fun j _ => by rw [sumN]
theorem sumN_one {f : Nat → Int} {n k : Nat} (hk : k < n) (h : ∀ i, i < n → i ≠ k → f i = 0) : sumN f n = f k := by
  induction n with
  | zero => omega
  | succ n ih =>
    rw [sumN]
    by_cases e : k = n
    · subst e
      rw [sumN_none (fun i hi => h i (by omega) (by omega))]; omega
    · rw [ih (by omega) (fun i hi hne => h i (by omega) hne), h n (by omega) (Ne.symm e)]; omega
theorem sumN_cut {f : Nat → Int} {m : Nat} : ∀ {n : Nat}, m ≤ n → (∀ i, m ≤ i → i < n → f i = 0) → sumN f n = sumN f m
  | 0, h, _ => by rw [Nat.le_zero.1 h]
  | n + 1, h, hz => by
    by_cases e : m = n + 1
    · rw [e]
    · rw [sumN, hz n (by omega) (by omega), sumN_cut (n := n) (by omega) (fun i h1 h2 => hz i h1 (by omega))]; omega

/-- A polynomial's coefficient as a sum. -/
theorem pat_sum (p : Pl) (k : Int) : pat p k = sumN (fun l => if p.low + (l : Int) = k then p.cs.getD l 0 else 0) p.cs.length := by
  by_cases h : p.low ≤ k ∧ k < p.low + p.cs.length
  · obtain ⟨l, hl⟩ : ∃ l : Nat, k = p.low + (l : Int) := ⟨(k - p.low).toNat, by omega⟩
    subst hl
    rw [pat_at, sumN_one (k := l) (by omega) (fun i _ hne => if_neg (by omega)), if_pos rfl]
  · rw [sumN_none fun i hi => if_neg (by omega)]
    by_cases h1 : k < p.low
    · exact pat_low p h1
    · exact pat_high p (by omega)
/-- The sum of the products of coefficients whose powers add up to k. -/
def mulF (a b : Pl) (k : Int) : Int := sumN (fun m => a.cs.getD m 0 * pat b (k - (a.low + (m : Int)))) a.cs.length
theorem mulF_two (a b : Pl) (k : Int) : mulF a b k = sumN (fun m => sumN (fun l => if a.low + (m : Int) + (b.low + (l : Int)) = k then a.cs.getD m 0 * b.cs.getD l 0 else 0) b.cs.length) a.cs.length := by
  unfold mulF
  refine sumN_congr fun m _ => ?_
  rw [pat_sum, ← sumN_mul]
  refine sumN_congr fun l _ => ?_
  by_cases h : b.low + (l : Int) = k - (a.low + (m : Int))
  · rw [if_pos h, if_pos (by omega)]
  · rw [if_neg h, if_neg (by omega), Int.mul_zero]
theorem mulF_comm (a b : Pl) (k : Int) : mulF a b k = mulF b a k := by
  rw [mulF_two, mulF_two, sumN_swap]
  refine sumN_congr fun l _ => sumN_congr fun m _ => ?_
  by_cases h : a.low + (m : Int) + (b.low + (l : Int)) = k
  · rw [if_pos h, if_pos (by omega), Int.mul_comm]
  · rw [if_neg h, if_neg (by omega)]
theorem mulF_congr {a b c : Pl} (h : ∀ k, pat b k = pat c k) (k : Int) : mulF a b k = mulF a c k := by
  unfold mulF
  exact sumN_congr fun m _ => by rw [h]
theorem mulF_congr1 {a b c : Pl} (h : ∀ k, pat a k = pat b k) (k : Int) : mulF a c k = mulF b c k := by
  rw [mulF_comm, mulF_congr h, mulF_comm]
/-- Products share sums. -/
theorem mulF_sum {a b c d : Pl} {n : Int} (h : ∀ k, pat d k = pat b k + n * pat c k) (k : Int) : mulF a d k = mulF a b k + n * mulF a c k := by
  unfold mulF
  rw [← sumN_mul, ← sumN_add]
  refine sumN_congr fun m _ => ?_
  rw [h, Int.mul_add, Int.mul_left_comm]

theorem convN_sum (x y : List Int) (i : Nat) : ∀ m, convN x y i m = sumN (fun j => if j ≤ i then x.getD j 0 * y.getD (i - j) 0 else 0) m
  | 0 => rfl
  | m + 1 => by rw [convN, sumN, convN_sum x y i m]
theorem prod_pat (a b : Pl) (k : Int) : pat (prodP a b) k = mulF a b k := by
  unfold prodP
  by_cases h0 : a.cs.length = 0 ∨ b.cs.length = 0
  · rw [if_pos h0, pat_nil]
    rcases h0 with h | h
    · unfold mulF; rw [h]; rfl
    · rw [mulF_comm]; unfold mulF; rw [h]; rfl
  · rw [if_neg h0, tidy_pat]
    by_cases h1 : k < a.low + b.low
    · rw [pat_low ⟨_, _⟩ h1]
      refine (sumN_none fun m _ => ?_).symm
      rw [pat_low b (by omega), Int.mul_zero]
    · by_cases h2 : a.low + b.low + ((a.cs.length + b.cs.length - 1 : Nat) : Int) ≤ k
      · rw [pat_high ⟨_, _⟩ (by show a.low + b.low + ((convL a.cs b.cs).length : Int) ≤ k; rw [convL_len]; exact h2)]
        refine (sumN_none fun m hm => ?_).symm
        rw [pat_high b (by omega), Int.mul_zero]
      · obtain ⟨i, hi⟩ : ∃ i : Nat, k = a.low + b.low + (i : Int) := ⟨(k - (a.low + b.low)).toNat, by omega⟩
        subst hi
        have e := pat_at ⟨a.low + b.low, convL a.cs b.cs⟩ i
        rw [show pat ⟨a.low + b.low, convL a.cs b.cs⟩ (a.low + b.low + (i : Int)) = (convL a.cs b.cs).getD i 0 from e, convL_get _ _ _ (by omega), convN_sum]
        unfold mulF
        refine sumN_congr fun m _ => ?_
        by_cases hm : m ≤ i
        · have e2 := pat_at b (i - m)
          rw [if_pos hm, show a.low + b.low + (i : Int) - (a.low + (m : Int)) = b.low + ((i - m : Nat) : Int) by omega, e2]
        · rw [if_neg hm, pat_low b (by omega), Int.mul_zero]
theorem prod_comm (a b : Pl) : prodP a b = prodP b a := trim_unique (prod_trim _ _) (prod_trim _ _) fun k => by rw [prod_pat, prod_pat, mulF_comm]
/-- A polynomial times 1 is itself. -/
theorem prod_one {a : Pl} (ha : Trim a) : prodP a ⟨0, [1]⟩ = a := trim_unique (prod_trim _ _) ha fun k => by
  rw [prod_pat, mulF_comm]
  unfold mulF
  show sumN (fun m => ([1] : List Int).getD m 0 * pat a (k - (0 + (m : Int)))) 1 = _
  rw [sumN, sumN]
  simp

end Go.Proofs.Ytakfobihakbefaa

/- Division undoes products, and products undo division (mathematics). -/

namespace Go.Proofs.Ytakfobihakbefaa
open Go.RowKit

theorem convN_cons (x : Int) (r y : List Int) (i : Nat) : ∀ m, convN (x :: r) y i (m + 1) = x * y.getD i 0 + (if 0 < i then convN r y (i - 1) m else 0)
  | 0 => by
    rw [convN, convN, convN, if_pos (Nat.zero_le _), Nat.sub_zero, ite_self, Int.add_zero, Int.zero_add]
    rfl
  | m + 1 => by
    rw [convN, convN_cons x r y i m]
    by_cases hi : 0 < i
    · rw [if_pos hi, if_pos hi, convN]
      by_cases h : m + 1 ≤ i
      · rw [if_pos h, if_pos (by omega), show i - (m + 1) = i - 1 - m by omega, Int.add_assoc]
        rfl
      · rw [if_neg h, if_neg (by omega)]
        omega
    · rw [if_neg hi, if_neg hi, if_neg (by omega)]
      omega
theorem convL_nil (y : List Int) (i : Nat) : (convL [] y).getD i 0 = 0 := by
  by_cases h : i < ([] : List Int).length + y.length - 1
  · rw [convL_get _ _ _ h]; rfl
  · exact getD_far (by rw [convL_len]; omega)
theorem convL_head (x : Int) (r y : List Int) (hy : 0 < y.length) : (convL (x :: r) y).getD 0 0 = x * y.getD 0 0 := by
  rw [convL_get _ _ _ (by rw [List.length_cons]; omega), List.length_cons, convN_cons, if_neg (Nat.lt_irrefl _), Int.add_zero]
theorem convL_next (x : Int) (r y : List Int) (hy : 0 < y.length) (i : Nat) : (convL (x :: r) y).getD (i + 1) 0 = x * y.getD (i + 1) 0 + (convL r y).getD i 0 := by
  by_cases h : i + 1 < (x :: r).length + y.length - 1
  · have hc : r.length + y.length - 1 ≤ i ∨ i < r.length + y.length - 1 := by omega
    rw [List.length_cons] at h
    rw [convL_get _ _ _ (by rw [List.length_cons]; omega), List.length_cons, convN_cons, if_pos (by omega), Nat.add_sub_cancel, convL_get _ _ _ (by omega)]
  · rw [List.length_cons] at h
    rw [getD_far (l := convL (x :: r) y) (by rw [convL_len, List.length_cons]; omega), getD_far (l := y) (by omega), getD_far (l := convL r y) (by rw [convL_len]; omega), Int.mul_zero]
    rfl
theorem mul4 {a b : Int} (h1 : -4 ≤ a ∧ a ≤ 4) (h2 : -4 ≤ b ∧ b ≤ 4) : -16 ≤ a * b ∧ a * b ≤ 16 := by
  have : a = -4 ∨ a = -3 ∨ a = -2 ∨ a = -1 ∨ a = 0 ∨ a = 1 ∨ a = 2 ∨ a = 3 ∨ a = 4 := by omega
  rcases this with rfl | rfl | rfl | rfl | rfl | rfl | rfl | rfl | rfl <;> omega
theorem convN_small {x y : List Int} (hx : ∀ i, -4 ≤ x.getD i 0 ∧ x.getD i 0 ≤ 4) (hy : ∀ i, -4 ≤ y.getD i 0 ∧ y.getD i 0 ≤ 4) (i : Nat) : ∀ m : Nat, -16 * (m : Int) ≤ convN x y i m ∧ convN x y i m ≤ 16 * (m : Int)
  | 0 => by rw [convN]; omega
  | m + 1 => by
    have h1 := convN_small hx hy i m
    have h2 := mul4 (hx m) (hy (i - m))
    rw [convN]
    split <;> omega
theorem convL_small {x y : List Int} (hx : ∀ i, -4 ≤ x.getD i 0 ∧ x.getD i 0 ≤ 4) (hy : ∀ i, -4 ≤ y.getD i 0 ∧ y.getD i 0 ≤ 4) (hl : x.length ≤ 1000) (i : Nat) : -16000 ≤ (convL x y).getD i 0 ∧ (convL x y).getD i 0 ≤ 16000 := by
  by_cases h : i < x.length + y.length - 1
  · rw [convL_get _ _ _ h]
    have := convN_small hx hy i x.length
    omega
  · rw [getD_far (by rw [convL_len]; omega)]; omega
theorem leftIn_of {z : Int} (h1 : -4000000000000000000 ≤ z) (h2 : z ≤ 4000000000000000000) : leftIn z = true := by
  unfold leftIn inR
  simp [h1, h2]
theorem coefIn_of {z : Int} (h1 : -1000000000 ≤ z) (h2 : z ≤ 1000000000) : coefIn z = true := by
  unfold coefIn inR
  simp [h1, h2]

/-- A product is divided. -/
theorem div_prod {y : List Int} (hy : 0 < y.length) (hy0 : y.getD 0 0 ≠ 0) (hyb : ∀ i, -4 ≤ y.getD i 0 ∧ y.getD i 0 ≤ 4) : ∀ x : List Int, (∀ i, -4 ≤ x.getD i 0 ∧ x.getD i 0 ≤ 4) → x.length ≤ 1000 → divGo y x.length (convL x y) = some (x, convL [] y)
  | [], _, _ => rfl
  | x :: r, hx, hl => by
    have hr : ∀ i, -4 ≤ r.getD i 0 ∧ r.getD i 0 ≤ 4 := fun i => by
      have := hx (i + 1)
      simpa using this
    have hx0 : -4 ≤ x ∧ x ≤ 4 := by
      have := hx 0
      simpa using this
    rw [List.length_cons] at hl
    have e0 := convL_head x r y hy
    have hQ : stepQ y (convL (x :: r) y) = x := by
      unfold stepQ
      rw [e0]
      exact Int.mul_tdiv_cancel x hy0
    have hB : stepB y (convL (x :: r) y) = true := by
      refine step_yes ?_ ?_ fun i hi => ?_
      · rw [e0]; exact Int.mul_tmod_left x _
      · rw [hQ]; exact coefIn_of (by omega) (by omega)
      · rw [hQ]
        cases i with
        | zero => rw [e0, Int.sub_self]; rfl
        | succ i =>
          rw [convL_next x r y hy i]
          have := convL_small hr hyb (by omega) i
          exact leftIn_of (by omega) (by omega)
    have hT : (subQ x y (convL (x :: r) y)).tail = convL r y := by
      refine eq_getD ?_ fun i _ => ?_
      · rw [List.length_tail, subQ_len, convL_len, convL_len, List.length_cons]
        omega
      · rw [tail_get, subQ_get _ _ _ _ (by rw [convL_len, List.length_cons]; omega), convL_next x r y hy i]
        omega
    rw [List.length_cons, divGo, if_pos hB, hQ, hT, div_prod hy hy0 hyb r hr (by omega)]
    rfl
/-- What is divided is a product. -/
theorem div_back {y : List Int} (hy : 0 < y.length) : ∀ (n : Nat) (left qs rest : List Int), left.length = n + y.length - 1 → divGo y n left = some (qs, rest) → qs.length = n ∧ (zeroL rest = true → left = convL qs y)
  | 0, left, qs, rest, hl, h => by
    rw [divGo] at h
    simp only [Option.some.injEq, Prod.mk.injEq] at h
    obtain ⟨rfl, rfl⟩ := h
    refine ⟨rfl, fun hz => eq_getD (by rw [hl, convL_len]; rfl) fun i hi => ?_⟩
    rw [convL_nil]
    by_cases hne : left.getD i 0 = 0
    · exact hne
    · rw [zeroL_no hne] at hz; exact absurd hz (by decide)
  | n + 1, left, qs, rest, hl, h => by
    rw [divGo] at h
    cases hB : stepB y left with
    | false => rw [if_neg (by rw [hB]; exact Bool.false_ne_true)] at h; cases h
    | true =>
      rw [if_pos hB] at h
      cases hD : divGo y n (subQ (stepQ y left) y left).tail with
      | none => rw [hD] at h; cases h
      | some p =>
        rw [hD] at h
        obtain ⟨q1, r1⟩ := p
        have h : some (stepQ y left :: q1, r1) = some (qs, rest) := h
        simp only [Option.some.injEq, Prod.mk.injEq] at h
        obtain ⟨rfl, rfl⟩ := h
        obtain ⟨i1, i2⟩ := div_back hy n _ q1 r1 (by rw [List.length_tail, subQ_len, hl]; omega) hD
        refine ⟨by rw [List.length_cons, i1], fun hz => eq_getD (by rw [hl, convL_len, List.length_cons, i1]) fun i _ => ?_⟩
        have e := i2 hz
        have hle : y.length ≤ left.length := by omega
        cases i with
        | zero =>
          rw [convL_head _ _ _ hy]
          have h0 := step_head hle (step_parts hB).1
          rw [subQ_get _ _ _ _ hle] at h0
          omega
        | succ i =>
          rw [convL_next _ _ _ hy, ← e, tail_get, subQ_get _ _ _ _ hle]
          omega
/-- The product of two polynomials that are not 0. -/
theorem prod_trimmed {a b : Pl} (ha : Trim a) (hb : Trim b) (h1 : 0 < a.cs.length) (h2 : 0 < b.cs.length) : prodP a b = ⟨a.low + b.low, convL a.cs b.cs⟩ := by
  unfold prodP
  rw [if_neg (by omega)]
  obtain ⟨a0, a1⟩ := trim_nonzero ha h1
  obtain ⟨b0, b1⟩ := trim_nonzero hb h2
  have e : tidyP (⟨a.low + b.low, convL a.cs b.cs⟩ : Pl).low (⟨a.low + b.low, convL a.cs b.cs⟩ : Pl).cs = _ := tidy_self (p := ⟨a.low + b.low, convL a.cs b.cs⟩) (by
    refine .inr ⟨fun e => ?_, ?_, ?_⟩
    · have e : convL a.cs b.cs = [] := e
      have := convL_len a.cs b.cs
      rw [e] at this
      simp at this
      omega
    · show (convL a.cs b.cs).getD 0 0 ≠ 0
      cases hx : a.cs with
      | nil => rw [hx] at h1; exact absurd h1 (Nat.lt_irrefl _)
      | cons x r =>
        rw [convL_head x r _ h2]
        rw [hx] at a0
        exact Int.mul_ne_zero (by simpa using a0) b0
    · show (convL a.cs b.cs).getD ((convL a.cs b.cs).length - 1) 0 ≠ 0
      obtain ⟨m, hm⟩ : ∃ m, a.cs.length = m + 1 := ⟨a.cs.length - 1, by omega⟩
      rw [convL_len, convL_get _ _ _ (by omega), hm, convN, convN_from _ _ _ m (by omega), if_pos (by omega), Int.zero_add]
      rw [hm] at a1
      refine Int.mul_ne_zero (by simpa using a1) ?_
      rw [show m + 1 + b.cs.length - 1 - 1 - m = b.cs.length - 1 by omega]
      exact b1)
  exact e
theorem convL_zero (y : List Int) : zeroL (convL [] y) = true := zeroL_yes fun i _ => convL_nil y i
/-- Products are divided. -/
theorem over_prod {a b : Pl} (ha : Trim a) (hb : Trim b) (h2 : 0 < b.cs.length) (hxa : ∀ i, -4 ≤ a.cs.getD i 0 ∧ a.cs.getD i 0 ≤ 4) (hxb : ∀ i, -4 ≤ b.cs.getD i 0 ∧ b.cs.getD i 0 ≤ 4) (hl : a.cs.length ≤ 1000) : overQ (prodP a b) b = some a := by
  by_cases h1 : a.cs.length = 0
  · have ea : a = ⟨0, []⟩ := trim_unique ha (.inl ⟨rfl, rfl⟩) fun k => by rw [pat_none h1, pat_nil]
    have ep : prodP a b = ⟨0, []⟩ := by unfold prodP; rw [if_pos (.inl h1)]
    rw [ep, ea]
    rfl
  · rw [prod_trimmed ha hb (by omega) h2]
    rw [overQ_some (by show 0 < (convL a.cs b.cs).length; rw [convL_len]; omega)]
    show outQ (a.low + b.low - b.low) (divGo b.cs ((convL a.cs b.cs).length + 1 - b.cs.length) (convL a.cs b.cs)) = some a
    rw [convL_len, show a.cs.length + b.cs.length - 1 + 1 - b.cs.length = a.cs.length by omega, div_prod h2 (trim_nonzero hb h2).1 hxb a.cs hxa hl]
    show (if zeroL (convL [] b.cs) then some (tidyP (a.low + b.low - b.low) a.cs) else none) = some a
    rw [convL_zero, if_pos rfl, show a.low + b.low - b.low = a.low by omega, tidy_self ha]
/-- What is divided is multiplied again. -/
theorem over_back {a b p : Pl} (ha : Trim a) (h2 : 0 < b.cs.length) (h : overQ a b = some p) : prodP p b = a := by
  by_cases h1 : a.cs.length = 0
  · have ea : a = ⟨0, []⟩ := trim_unique ha (.inl ⟨rfl, rfl⟩) fun k => by rw [pat_none h1, pat_nil]
    have e : overQ a b = some a := by unfold overQ; rw [if_pos h1]
    rw [e] at h
    simp only [Option.some.injEq] at h
    subst h
    unfold prodP
    rw [if_pos (.inl h1), ea]
  · rw [overQ_some (by omega)] at h
    obtain ⟨a0, _⟩ := trim_nonzero ha (by omega)
    cases hD : divGo b.cs (a.cs.length + 1 - b.cs.length) a.cs with
    | none => rw [hD] at h; cases h
    | some q =>
      obtain ⟨qs, rest⟩ := q
      rw [hD] at h
      have h : (if zeroL rest then some (tidyP (a.low - b.low) qs) else none) = some p := h
      cases hz : zeroL rest with
      | false => rw [hz] at h; cases h
      | true =>
        rw [hz, if_pos rfl] at h
        simp only [Option.some.injEq] at h
        subst h
        have hn : 0 < a.cs.length + 1 - b.cs.length := by
          by_cases hn : 0 < a.cs.length + 1 - b.cs.length
          · exact hn
          · rw [show a.cs.length + 1 - b.cs.length = 0 by omega, divGo] at hD
            simp only [Option.some.injEq, Prod.mk.injEq] at hD
            obtain ⟨_, rfl⟩ := hD
            rw [zeroL_no a0] at hz
            exact absurd hz (by decide)
        obtain ⟨hq, hc⟩ := div_back h2 _ _ qs rest (by omega) hD
        have hc := hc hz
        refine trim_unique (prod_trim _ _) ha fun k => ?_
        rw [prod_pat, mulF_congr1 (b := ⟨a.low - b.low, qs⟩) (fun k => tidy_pat _ _ k), ← prod_pat]
        unfold prodP
        rw [if_neg (by show ¬ (qs.length = 0 ∨ b.cs.length = 0); omega)]
        show pat (tidyP (a.low - b.low + b.low) (convL qs b.cs)) k = pat a k
        rw [← hc, show a.low - b.low + b.low = a.low by omega, tidy_self ha]

end Go.Proofs.Ytakfobihakbefaa

/- Being alike: slices.Equal at ints, the model's PolyAlike. -/

namespace Go.Proofs.Ytakfobihakbefaa
open Go.RowKit

set_option maxRecDepth 100000 in
set_option maxHeartbeats 4000000 in
theorem equalI_any (x y : List Int) (a1 a2 : Option Addr) (c1 c2 n1 n2 : Nat) (b : Bool) (w : World) (h1 : Ints w a1 n1 x) (h2 : Ints w a2 n2 y) (hb : decide (x = y) = b) :
    Calls Try.prog 79 #[.slice a1 n1 c1, .slice a2 n2 c2] w fun e w' => e = .returned (.bool b) ∧ Below w.heap.size w w' := by
  have hm := h1.max
  unfold maxLen at hm
  have H1 := Lib.hid h1
  have H2 := Lib.hid h2
  have HB := Lib.hid hb
  have HN1 := Lib.hid h1.len
  have HN2 := Lib.hid h2.len
  clear hb h1 h2
  go_enter Try.func79, Try.ntmps79
  by_cases hn : n1 = n2
  · subst hn
    have hnn : ((n1 : Int) != (n1 : Int)) = false := by simp
    go_wp2_with fail
    go_loopw [5, 13] (fun _ i wr => ∃ k : Nat, k ≤ n1 ∧ i = .int .i64 (k : Int) ∧ Hid (∀ i, i < k → x.getD i 0 = y.getD i 0) ∧ Below w.heap.size w wr) (fun _ i _ => n1 - (intOf i).toNat)
    case atStart => exact ⟨0, Nat.zero_le _, rfl, Lib.hid fun i h => absurd h (Nat.not_lt_zero _), Below.refl _ _⟩
    case round =>
      obtain ⟨k, hk, rfl, HK, hB⟩ := hrel
      have hki : (0 : Int) ≤ (k : Int) := Int.natCast_nonneg _
      by_cases hlt : k < n1
      · have hlti : (k : Int) < (n1 : Int) := by omega
        obtain ⟨z1, rfl, hb1, hc1⟩ := (H1.out.below hB).at_ (by omega)
        obtain ⟨z2, rfl, hb2, hc2⟩ := (H2.out.below hB).at_ (by omega)
        have hkx : k < x.length := by rw [HN1.out]; exact hlt
        have hky : k < y.length := by rw [HN2.out]; exact hlt
        obtain ⟨u, hu⟩ : ∃ u, x[k] = u := ⟨_, rfl⟩
        obtain ⟨v, hv⟩ : ∃ v, y[k] = v := ⟨_, rfl⟩
        have e1 := hc1 k hkx
        have e2 := hc2 k hky
        rw [hu] at e1
        rw [hv] at e2
        have hgu : x.getD k 0 = u := by rw [List.getD_eq_getElem?_getD, List.getElem?_eq_getElem hkx, hu]; rfl
        have hgv : y.getD k 0 = v := by rw [List.getD_eq_getElem?_getD, List.getElem?_eq_getElem hky, hv]; rfl
        have HGU := Lib.hid hgu
        have HGV := Lib.hid hgv
        clear hu hv hc1 hc2 hgu hgv
        by_cases huv : u = v
        · subst huv
          have hne : (u != u) = false := by simp
          go_wp2
          go_quiet (fail)
          go_wp2
          go_roundw
          case rel => exact ⟨k + 1, by omega, by go_num, Lib.hid fun i h => by
            by_cases e : i = k
            · rw [e, HGU.out, HGV.out]
            · exact HK.out i (by omega), below_drewN hB _⟩
          case measure => simp [intOf]; omega
        · have hne : (u != v) = true := by simpa using huv
          have hbf : b = false := by
            rw [← HB.out]
            refine decide_eq_false fun h => huv ?_
            rw [← HGU.out, ← HGV.out, h]
          subst hbf
          go_wp2
          go_quiet (fail)
          go_wp2
          go_ret
          exact ⟨rfl, below_drewN hB _⟩
      · obtain rfl : k = n1 := by omega
        have hbt : b = true := by
          rw [← HB.out]
          have e := eq_getD (x := x) (y := y) (by rw [HN1.out, HN2.out]) (fun i hi => HK.out i (by rw [← HN1.out]; exact hi))
          exact decide_eq_true e
        subst hbt
        go_wp2
        go_ret
        exact ⟨rfl, hB⟩
  · have hbf : b = false := by
      rw [← HB.out]
      exact decide_eq_false fun h => hn (by rw [← HN1.out, ← HN2.out, h])
    subst hbf
    have hni : ¬ (n1 : Int) = (n2 : Int) := by omega
    have hnn : ((n1 : Int) != (n2 : Int)) = true := by simpa using hni
    go_wp2
    go_ret
    exact ⟨rfl, Below.refl _ _⟩

theorem doneP_mem {b : Bool} {q p : Pl} (hb : b = true → polyB q = true) (hp : doneP b q = p) : ∀ z ∈ p.cs, -9223372036854775808 ≤ z ∧ z ≤ 9223372036854775807 := fun z hz => by
  subst hp
  cases b with
  | false => cases hz
  | true =>
    have := coefIn_yes (polyB_coef (hb rfl) z hz)
    omega
/-- Whether two polynomials differ by a unit only. -/
def alikeB (a b : Pl) : Bool := polyB a && (polyB b && decide ((plainP a).cs = (plainP b).cs))
theorem plain_zero {p : Pl} (h : polyB p = true) : (plainP p).low = 0 := by
  by_cases h0 : 0 < p.cs.length
  · exact plain_low h0
  · unfold plainP
    rw [if_pos (by omega)]
    rcases (polyB_trim h).1 with ⟨_, h⟩ | ⟨h, _⟩
    · exact h
    · exact absurd (List.length_eq_zero_iff.1 (by omega)) h

set_option maxRecDepth 100000 in
set_option maxHeartbeats 4000000 in
theorem sPolyAlike_any (l1 l2 : Int) (x y : List Int) (a1 a2 : Option Addr) (c1 c2 n1 n2 : Nat) (ba bb t : Bool) (w : World) (h1 : Ints w a1 n1 x) (h2 : Ints w a2 n2 y)
    (hba : polyB ⟨l1, x⟩ = ba) (hbb : polyB ⟨l2, y⟩ = bb) (ht : (ba && (bb && decide ((plainP ⟨l1, x⟩).cs = (plainP ⟨l2, y⟩).cs))) = t) :
    Calls Try.prog 30 #[plV l1 (.slice a1 n1 c1), plV l2 (.slice a2 n2 c2)] w fun e w' => e = .returned (.bool t) ∧ Below w.heap.size w w' := by
  have hmx : Try.prog.follows .mixedOrders = true := by kernel_rfl
  obtain ⟨W, hW⟩ : ∃ W, (w.alloc (.cells #[.int .i64 l1, .slice a1 n1 c1] 25)).alloc (.cells #[.int .i64 l2, .slice a2 n2 c2] 25) = W := ⟨_, rfl⟩
  have hsz : W.heap.size = w.heap.size + 2 := by rw [← hW]; simp
  have hbW : Below w.heap.size w W := by rw [← hW]; exact ((Below.refl _ w).alloc (Nat.le_refl _) _).alloc (by simp) _
  have HC : Hid (∀ w1, Below W.heap.size W w1 → _) := Lib.hid fun w1 (hg : Below W.heap.size W w1) => twoCells hW hg
  have H1 := Lib.hid (h1.below hbW)
  have H2 := Lib.hid (h2.below hbW)
  have HBA := Lib.hid hba
  have HBB := Lib.hid hbb
  have HN1 := Lib.hid h1.len
  have HN2 := Lib.hid h2.len
  have HBW := Lib.hid hbW
  have HT := Lib.hid ht
  have v0 : ∀ p : BelowBy W, p.world.cell? ⟨w.heap.size, 0, none⟩ = some (.int .i64 l1) := fun p => (HC.out _ p.below).1
  have v1 : ∀ p : BelowBy W, p.world.cell? ⟨w.heap.size, 1, none⟩ = some (.slice a1 n1 c1) := fun p => (HC.out _ p.below).2.1
  have v2 : ∀ p : BelowBy W, p.world.cell? ⟨w.heap.size + 1, 0, none⟩ = some (.int .i64 l2) := fun p => (HC.out _ p.below).2.2.1
  have v3 : ∀ p : BelowBy W, p.world.cell? ⟨w.heap.size + 1, 1, none⟩ = some (.slice a2 n2 c2) := fun p => (HC.out _ p.below).2.2.2
  have HA : Hid (∀ p : BelowBy W, Calls Try.prog 74 #[plV l1 (.slice a1 n1 c1)] p.world fun e w' => e = .returned (.bool ba) ∧ Below p.world.heap.size p.world w') := Lib.hid fun p => sPolyIn_any l1 x a1 c1 n1 ba _ (H1.out.below p.below) HBA.out
  have HD : Hid (∀ p : BelowBy W, Calls Try.prog 74 #[plV l2 (.slice a2 n2 c2)] p.world fun e w' => e = .returned (.bool bb) ∧ Below p.world.heap.size p.world w') := Lib.hid fun p => sPolyIn_any l2 y a2 c2 n2 bb _ (H2.out.below p.below) HBB.out
  have HW := Lib.hid hW
  clear hW hbW h1 h2 hba hbb hsz ht
  go_enter Try.func30, Try.ntmps30
  go_upto_region 1 with fail
  rw [HW.out]
  cases ba with
  | false =>
    obtain rfl : t = false := by rw [← HT.out]; rfl
    refine wp_region_below hmx (by kernel_rfl) ?_
    repeat (((with_reducible refine wpQuiet_step (fun K hK => ?_)); go_simp; first | ((with_reducible refine hK _ ?_); clear hK K) | (refine (if_neg (by decide)).mpr ?_; (with_reducible refine hK _ ?_); clear hK K) | (apply Exists.intro; (with_reducible refine ⟨fun _ => ?_, hK _ ?_⟩); (go_at_call 74; exact Calls.bel (HA.out _)); clear hK K)))
    with_reducible refine wpQuiet_nil ?_
    rintro _ ⟨⟨V, hV⟩, rfl⟩
    clear v0 v1 v2 v3
    go_wp2
    go_ret
    exact ⟨rfl, HBW.out.trans (hV.mono HBW.out.size)⟩
  | true =>
    cases bb with
    | false =>
      obtain rfl : t = false := by rw [← HT.out]; rfl
      refine wp_region_below hmx (by kernel_rfl) ?_
      repeat (((with_reducible refine wpQuiet_step (fun K hK => ?_)); go_simp; first | ((with_reducible refine hK _ ?_); clear hK K) | (refine (if_neg (by decide)).mpr ?_; (with_reducible refine hK _ ?_); clear hK K) | (apply Exists.intro; (with_reducible refine ⟨fun _ => ?_, hK _ ?_⟩); (go_at_call 74; first | with_reducible exact Calls.bel (HA.out _) | with_reducible exact Calls.bel (HD.out _)); clear hK K) | (refine (if_pos (by decide)).mpr ?_; apply Exists.intro; (with_reducible refine ⟨fun _ => ?_, hK _ ?_⟩); (go_at_call 74; first | with_reducible exact Calls.bel (HA.out _) | with_reducible exact Calls.bel (HD.out _)); clear hK K)))
      with_reducible refine wpQuiet_nil ?_
      rintro _ ⟨⟨V, hV⟩, rfl⟩
      clear v0 v1 v2 v3
      go_wp2
      go_ret
      exact ⟨rfl, HBW.out.trans (hV.mono HBW.out.size)⟩
    | true =>
      clear v0 v1 v2 v3
      have hz1 := plain_zero HBA.out
      have hz2 := plain_zero HBB.out
      obtain ⟨_, hx200, _, _, hxc⟩ := polyB_trim HBA.out
      obtain ⟨_, hy200, _, _, hyc⟩ := polyB_trim HBB.out
      have hx200 : x.length ≤ 200 := hx200
      have hy200 : y.length ≤ 200 := hy200
      have hxc : ∀ i, -1000000000 ≤ x.getD i 0 ∧ x.getD i 0 ≤ 1000000000 := hxc
      have hyc : ∀ i, -1000000000 ≤ y.getD i 0 ∧ y.getD i 0 ≤ 1000000000 := hyc
      have HXC := Lib.hid hxc
      have HYC := Lib.hid hyc
      rw [HN1.out] at hx200
      rw [HN2.out] at hy200
      have hlx := plain_len ⟨l1, x⟩
      have hly := plain_len ⟨l2, y⟩
      obtain ⟨p1, hp1⟩ : ∃ p, (plainP ⟨l1, x⟩).cs = p := ⟨_, rfl⟩
      obtain ⟨p2, hp2⟩ : ∃ p, (plainP ⟨l2, y⟩).cs = p := ⟨_, rfl⟩
      rw [hp1] at hlx
      rw [hp2] at hly
      have htt := HT.out
      rw [hp1, hp2, Bool.true_and, Bool.true_and] at htt
      have HTT : Hid (decide (p1 = p2) = t) := Lib.hid htt
      have HP1 : Hid (∀ V, Below W.heap.size W V → Calls Try.prog 77 #[plV l1 (.slice a1 n1 c1)] V fun e w' => (∃ a cap, e = .returned (plV 0 (.slice a n1 cap)) ∧ Ints w' a n1 p1) ∧ Below V.heap.size V w') := Lib.hid fun V hV => by
        have h := l6pPlain_any l1 x a1 c1 n1 V (H1.out.below hV) (by omega) HXC.out
        rw [hz1, hp1] at h
        exact h
      have HP2 : Hid (∀ V, Below W.heap.size W V → Calls Try.prog 77 #[plV l2 (.slice a2 n2 c2)] V fun e w' => (∃ a cap, e = .returned (plV 0 (.slice a n2 cap)) ∧ Ints w' a n2 p2) ∧ Below V.heap.size V w') := Lib.hid fun V hV => by
        have h := l6pPlain_any l2 y a2 c2 n2 V (H2.out.below hV) (by omega) HYC.out
        rw [hz2, hp2] at h
        exact h
      clear hz1 hz2 hp1 hp2 hxc hyc hlx hly htt
      obtain ⟨k0, k1, k2, k3⟩ := HC.out W (Below.refl _ _)
      have HBk : Hid (Below W.heap.size W W) := Lib.hid (Below.refl _ _)
      go_region_held3 (fun w' : World => w'.cell? ⟨w.heap.size, 0, none⟩ = some (.int .i64 l1) ∧ w'.cell? ⟨w.heap.size, 1, none⟩ = some (.slice a1 n1 c1) ∧ w'.cell? ⟨w.heap.size + 1, 0, none⟩ = some (.int .i64 l2) ∧ w'.cell? ⟨w.heap.size + 1, 1, none⟩ = some (.slice a2 n2 c2)) (first | go_keep | exact ⟨k0, k1, k2, k3⟩)
        (first
          | (go_at_call 74
             first
             | with_reducible refine (sPolyIn_any l1 x a1 c1 n1 true _ (H1.out.below (by first | exact HBk.out | exact HBk.out.drew)) HBA.out).mono ?_
             | with_reducible refine (sPolyIn_any l2 y a2 c2 n2 true _ (H2.out.below (by first | exact HBk.out | exact HBk.out.drew)) HBB.out).mono ?_
             rintro e V ⟨rfl, hbv⟩
             have hbn : Below W.heap.size W V := by
               first
               | exact HBk.out.trans (hbv.mono HBk.out.size)
               | exact HBk.out.drew.trans (hbv.mono HBk.out.size)
             clear HBk
             have HBk := Lib.hid hbn
             obtain ⟨k0, k1, k2, k3⟩ := HC.out V hbn
             clear hbv hbn)
          | (go_at_call 77
             with_reducible refine (HP1.out _ HBk.out).mono ?_
             rintro e V ⟨⟨g1, d1, rfl, hi⟩, hbv⟩
             have HI1 := Lib.hid hi
             have hbn : Below W.heap.size W V := HBk.out.trans (hbv.mono HBk.out.size)
             clear HBk
             have HBk := Lib.hid hbn
             obtain ⟨k0, k1, k2, k3⟩ := HC.out V hbn
             clear hbv hbn hi)
          | (go_at_call 77
             with_reducible refine (HP2.out _ HBk.out).mono ?_
             rintro e V ⟨⟨g2, d2, rfl, hi⟩, hbv⟩
             have HI1' := Lib.hid (HI1.out.below hbv)
             clear HI1
             have HI1 := HI1'
             clear HI1'
             have HI2 := Lib.hid hi
             have hbn : Below W.heap.size W V := HBk.out.trans (hbv.mono HBk.out.size)
             clear HBk
             have HBk := Lib.hid hbn
             obtain ⟨k0, k1, k2, k3⟩ := HC.out V hbn
             clear hbv hbn hi)
          | (go_at_call 81
             refine (l6pSame_any 0 0 p1 p2 g1 g2 d1 d2 n1 n2 t _ HI1.out HI2.out (by rw [← HTT.out]; simp)).mono ?_
             rintro e V ⟨rfl, hbv⟩
             have hbn : Below W.heap.size W V := HBk.out.trans (hbv.mono HBk.out.size)
             clear HBk
             have HBk := Lib.hid hbn
             obtain ⟨k0, k1, k2, k3⟩ := HC.out V hbn
             clear hbv hbn))
      go_wp2
      go_ret
      exact ⟨ret_bool (by cases t <;> rfl), HBW.out.trans (HBk.out.mono HBW.out.size)⟩

end Go.Proofs.Ytakfobihakbefaa

/- The program's PolyAlike; both sides as the law wants them. -/

namespace Go.Proofs.Ytakfobihakbefaa
open Go.RowKit

set_option maxRecDepth 100000 in
set_option maxHeartbeats 4000000 in
theorem iPolyAlike_any (l1 l2 : Int) (x y : List Int) (a1 a2 : Option Addr) (c1 c2 n1 n2 : Nat) (ba bb t : Bool) (w : World) (h1 : Ints w a1 n1 x) (h2 : Ints w a2 n2 y) (hc1 : n1 ≤ c1) (hc2 : n2 ≤ c2)
    (hba : polyB ⟨l1, x⟩ = ba) (hbb : polyB ⟨l2, y⟩ = bb) (ht : (ba && (bb && decide ((plainP ⟨l1, x⟩).cs = (plainP ⟨l2, y⟩).cs))) = t) :
    Calls Try.prog 28 #[plV l1 (.slice a1 n1 c1), plV l2 (.slice a2 n2 c2)] w fun e w' => e = .returned (.bool t) ∧ Below w.heap.size w w' := by
  obtain ⟨W, hW⟩ : ∃ W, (w.alloc (.cells #[.int .i64 l1, .slice a1 n1 c1] 25)).alloc (.cells #[.int .i64 l2, .slice a2 n2 c2] 25) = W := ⟨_, rfl⟩
  have hbW : Below w.heap.size w W := by rw [← hW]; exact ((Below.refl _ w).alloc (Nat.le_refl _) _).alloc (by simp) _
  have HC : Hid (∀ w1, Below W.heap.size W w1 → _) := Lib.hid fun w1 (hg : Below W.heap.size W w1) => twoCells hW hg
  have hC := twoCells hW (Below.refl _ _)
  rw [← hW] at hC
  obtain ⟨q0, q1, q2, q3⟩ := hC
  have H1 := Lib.hid (h1.below hbW)
  have H2 := Lib.hid (h2.below hbW)
  have HBA := Lib.hid hba
  have HBB := Lib.hid hbb
  have HBW := Lib.hid hbW
  have HT := Lib.hid ht
  have HW := Lib.hid hW
  clear hW hbW h1 h2 hba hbb ht
  obtain ⟨p1, hp1⟩ : ∃ p, doneP ba (plainP ⟨l1, x⟩) = p := ⟨_, rfl⟩
  obtain ⟨p2, hp2⟩ : ∃ p, doneP bb (plainP ⟨l2, y⟩) = p := ⟨_, rfl⟩
  have hm1 : ∀ z ∈ p1.cs, -9223372036854775808 ≤ z ∧ z ≤ 9223372036854775807 := doneP_mem (fun e => plain_polyB (HBA.out.trans e)) hp1
  have hm2 : ∀ z ∈ p2.cs, -9223372036854775808 ≤ z ∧ z ≤ 9223372036854775807 := doneP_mem (fun e => plain_polyB (HBB.out.trans e)) hp2
  have HM1 := Lib.hid hm1
  have HM2 := Lib.hid hm2
  have HA := Lib.hid (iPolyPlain_any l1 x a1 c1 n1 ba W H1.out hc1 HBA.out)
  rw [hp1] at HA
  have HD : Hid (∀ V, Below W.heap.size W V → Calls Try.prog 25 #[plV l2 (.slice a2 n2 c2)] V fun e w' => (∃ v, e = .returned (.tuple #[plV p2.low v, .bool bb]) ∧ IntRow V.heap.size w' v p2.cs) ∧ Below V.heap.size V w') := Lib.hid fun V hV => by
    have h := iPolyPlain_any l2 y a2 c2 n2 bb V (H2.out.below hV) hc2 HBB.out
    rwa [hp2] at h
  have htt : (ba && (bb && decide (p1.cs = p2.cs))) = t := by
    rw [← HT.out, ← hp1, ← hp2]
    cases ba with
    | false => rfl
    | true =>
      cases bb with
      | false => rfl
      | true => rfl
  have HTT := Lib.hid htt
  clear hm1 hm2 hp1 hp2 htt
  go_enter Try.func28, Try.ntmps28
  go_wp2_with fail
  rw [HW.out]
  clear q0 q1 q2 q3
  refine HA.out.mono ?_
  rintro e w1 ⟨⟨v, rfl, hr⟩, hb1⟩
  obtain ⟨g1, d1, rfl, hd1, hi1⟩ := hr.readc HM1.out
  obtain ⟨m1, hm1⟩ : ∃ m, p1.cs.length = m := ⟨_, rfl⟩
  rw [hm1] at hi1 hd1 ⊢
  have hs1 := hb1.size
  obtain ⟨V, hV⟩ : ∃ V, w1.alloc (.cells #[.int .i64 p1.low, .slice g1 m1 d1] 25) = V := ⟨_, rfl⟩
  have hbV : Below w1.heap.size w1 V := by rw [← hV]; exact (Below.refl _ _).alloc (Nat.le_refl _) _
  have HE : Hid (∀ w2, Below V.heap.size V w2 → _) := Lib.hid fun w2 (hg : Below V.heap.size V w2) => oneBox hV hg
  have HBV := Lib.hid (hb1.trans (hbV.mono hs1))
  have hsV := HBV.out.size
  have HI1 := Lib.hid (hi1.below hbV)
  have hp := HC.out V HBV.out
  rw [← hV] at hp
  obtain ⟨q0, q1, q2, q3⟩ := hp
  have HV := Lib.hid hV
  clear hr hb1 hi1 hm1 hV hbV
  cases ba with
  | false =>
    obtain rfl : t = false := by rw [← HT.out]; rfl
    go_wp2
    go_ret
    rw [HV.out]
    exact ⟨rfl, HBW.out.trans (HBV.out.mono HBW.out.size)⟩
  | true =>
    go_wp2_with fail
    rw [HV.out]
    clear q0 q1 q2 q3
    refine (HD.out V HBV.out).mono ?_
    rintro e w2 ⟨⟨v, rfl, hr⟩, hb2⟩
    obtain ⟨g2, d2, rfl, hd2, hi2⟩ := hr.readc HM2.out
    obtain ⟨m2, hm2⟩ : ∃ m, p2.cs.length = m := ⟨_, rfl⟩
    rw [hm2] at hi2 hd2 ⊢
    obtain ⟨U, hU⟩ : ∃ U, w2.alloc (.cells #[.int .i64 p2.low, .slice g2 m2 d2] 25) = U := ⟨_, rfl⟩
    have hbU : Below w2.heap.size w2 U := by rw [← hU]; exact (Below.refl _ _).alloc (Nat.le_refl _) _
    have hVU : Below V.heap.size V U := hb2.trans (hbU.mono hb2.size)
    have hq := HE.out U hVU
    have hq2 := oneBox hU (Below.refl _ _)
    rw [← hU] at hq hq2
    obtain ⟨q0, q1⟩ := hq
    obtain ⟨q2, q3⟩ := hq2
    have HBU := Lib.hid (HBW.out.trans ((HBV.out.trans (hVU.mono hsV)).mono HBW.out.size))
    have HI1U := Lib.hid (HI1.out.below hVU)
    have HI2U := Lib.hid (hi2.below hbU)
    have HU := Lib.hid hU
    clear hr hb2 hi2 hm2 hU hbU hVU
    cases bb with
    | false =>
      obtain rfl : t = false := by rw [← HT.out]; rfl
      go_wp2
      go_ret
      rw [HU.out]
      exact ⟨rfl, HBU.out⟩
    | true =>
      have hte : decide (p1.cs = p2.cs) = t := by have := HTT.out; rwa [Bool.true_and, Bool.true_and] at this
      have HEQ := Lib.hid (equalI_any p1.cs p2.cs g1 g2 d1 d2 m1 m2 t U HI1U.out HI2U.out hte)
      clear hte
      go_wp2_with fail
      rw [HU.out]
      refine HEQ.out.mono ?_
      rintro e w3 ⟨rfl, hb3⟩
      have HB3 := Lib.hid (HBU.out.trans (hb3.mono HBU.out.size))
      clear hb3 q0 q1 q2 q3
      go_wp2
      go_ret
      exact ⟨ret_bool (by cases t <;> rfl), HB3.out⟩

/-! ### As the law wants them -/
theorem sPolyAlike_law {l1 l2 : Int} {x y : List Int} {a1 a2 : Option Addr} {n1 n2 : Nat} {b : Bool} {w : World} (h1 : Ints w a1 n1 x) (h2 : Ints w a2 n2 y) (hb : alikeB ⟨l1, x⟩ ⟨l2, y⟩ = b) :
    Calls Try.prog 30 #[plV l1 (.slice a1 n1 n1), plV l2 (.slice a2 n2 n2)] w fun e w' => e = .returned (.bool b) ∧ Below w.heap.size w w' :=
  sPolyAlike_any l1 l2 x y a1 a2 n1 n2 n1 n2 _ _ b w h1 h2 rfl rfl hb
theorem iPolyAlike_law {l1 l2 : Int} {x y : List Int} {a1 a2 : Option Addr} {n1 n2 : Nat} {b : Bool} {w : World} (h1 : Ints w a1 n1 x) (h2 : Ints w a2 n2 y) (hb : alikeB ⟨l1, x⟩ ⟨l2, y⟩ = b) :
    Calls Try.prog 28 #[plV l1 (.slice a1 n1 n1), plV l2 (.slice a2 n2 n2)] w fun e w' => e = .returned (.bool b) ∧ Below w.heap.size w w' :=
  iPolyAlike_any l1 l2 x y a1 a2 n1 n2 n1 n2 _ _ b w h1 h2 (Nat.le_refl _) (Nat.le_refl _) rfl rfl hb

end Go.Proofs.Ytakfobihakbefaa

/- The program's takeOut. -/

namespace Go.Proofs.Ytakfobihakbefaa
open Go.RowKit

theorem boxKept {w w1 W : World} {t : TypeId} {x y : Value} {g : Nat} (hW : w.alloc (.cells #[x, y] t) = W) (hg : W.grownBy w1 (some g)) (hgl : g < w.heap.size) : w1.cell? ⟨w.heap.size, 0, none⟩ = some x ∧ w1.cell? ⟨w.heap.size, 1, none⟩ = some y := by
  have hsz : W.heap.size = w.heap.size + 1 := by rw [← hW]; simp
  have e0 := hg.block w.heap.size (by omega) (by simp; omega)
  rw [← hW, World.alloc_heap_new] at e0
  exact ⟨by simp [World.cell?, e0], by simp [World.cell?, e0]⟩
/-- Ints that lie in another block than the one that is written. -/
theorem Ints.keptBut {w W w1 : World} {a : Option Addr} {n g : Nat} {zs : List Int} (h : Ints w a n zs) (hbW : Below w.heap.size w W) (hg : W.grownBy w1 (some g)) (hne : n = 0 ∨ ∀ x, a = some x → x.block ≠ g) : ∀ k, k < n → ∀ x, a = some x → ∀ z, zs.getD k 0 = z → w1.cell? (x.add k) = some (.int .i64 z) := fun k hk x hx z hz => by
  obtain ⟨x', e, hb, hc⟩ := h.at_ (by omega)
  obtain rfl : x = x' := by rw [hx] at e; simpa using e
  have hl := h.len
  have hne' : (x.add k).block ≠ g := by rw [addr_add_block]; exact (hne.resolve_left (by omega)) x hx
  have hbk := hbW.cell (p := x.add k) (by rw [addr_add_block]; exact hb)
  have hbl : (x.add k).block < W.heap.size := by rw [addr_add_block]; have := hbW.size; omega
  have e1 := hg.block (x.add k).block hbl (by simp; exact hne')
  have e2 : w1.cell? (x.add k) = W.cell? (x.add k) := by unfold World.cell?; rw [e1]
  rw [e2, hbk, hc k (by omega), ← hz, List.getD_eq_getElem?_getD, List.getElem?_eq_getElem (by omega)]
  rfl
theorem mul_in {q b : Int} (h1 : -1000000000 ≤ q ∧ q ≤ 1000000000) (h2 : -1000000000 ≤ b ∧ b ≤ 1000000000) : -1000000000000000000 ≤ q * b ∧ q * b ≤ 1000000000000000000 := by
  have h := conv_bound (x := [q]) (y := [b]) (fun i => by cases i with | zero => exact h1 | succ i => simp) (fun i => by cases i with | zero => exact h2 | succ i => simp) 0 0
  exact h

/-- What takeOut comes to: the number that it tells, and the row. -/
def Taken (base g n1 capN i : Nat) (bs left : List Int) (s : Bool) (e : Ending) (w' : World) : Prop :=
  (s = true ∧ e = .returned (.tuple #[.int .i64 (stepQ bs left), .bool true]) ∧ w'.ownsRow base 3 1 (.slice (some ⟨g, 0, none⟩) n1 capN) n1 (intsV (listN (rowG (i + 1) (subQ (stepQ bs left) bs left).tail) n1))) ∨ (s = false ∧ e = .returned (.tuple #[.int .i64 0, .bool false]))

end Go.Proofs.Ytakfobihakbefaa

/- The program's over. -/

namespace Go.Proofs.Ytakfobihakbefaa
open Go.RowKit

def sliceLen : Value → Nat
  | .slice _ n _ => n
  | _ => 0
theorem drop_row {i m n : Nat} {left : List Int} (h : i + m = n) (hl : left.length = m) : ((listN (rowG i left) n).drop i).take m = left := by
  refine eq_getD (by rw [List.length_take, List.length_drop, listN_len]; omega) fun k hk => ?_
  rw [List.length_take, List.length_drop, listN_len] at hk
  rw [List.getD_eq_getElem?_getD, List.getElem?_take_of_lt (by omega), List.getElem?_drop, ← List.getD_eq_getElem?_getD, listN_get (by omega), rowG_at]
theorem any_zero (l : List Int) : (l.any fun z => !decide (z = 0)) = !zeroL l := by
  unfold zeroL
  rw [List.not_all_eq_any_not]
theorem rowG_in {i n : Nat} {left : List Int} (hl : LeftOK left) : ∀ z ∈ listN (rowG i left) n, -9223372036854775808 ≤ z ∧ z ≤ 9223372036854775807 := fun z hz => by
  unfold listN at hz
  obtain ⟨j, _, rfl⟩ := List.mem_map.1 hz
  unfold rowG
  split
  · omega
  · have := hl (j - i)
    omega
theorem coefs_in {qs : List Int} (h : ∀ z ∈ qs, coefIn z = true) : ∀ z ∈ qs, -9223372036854775808 ≤ z ∧ z ≤ 9223372036854775807 := fun z hz => by
  have := coefIn_yes (h z hz)
  omega

end Go.Proofs.Ytakfobihakbefaa

/- The program's PolyOver. -/

namespace Go.Proofs.Ytakfobihakbefaa
open Go.RowKit

theorem over_done {a b : Pl} {t : Bool} (h : overB a b = t) : doneP t (overP a b) = overP a b := by
  cases t with
  | true => rfl
  | false =>
    cases e : overQ a b with
    | none => rw [(over_none e).2]; rfl
    | some p =>
      obtain ⟨h1, h2⟩ := over_some e
      rw [h2, ← h1, h]
      rfl
theorem divided_over {a b : Pl} {t : Bool} (h : dividedB a b = t) (ha : polyB a = true) (hb : polyB b = true) (h0 : 0 < b.cs.length) : overB a b = t ∧ dividedP a b = overP a b := by
  have e : overB a b = t := by
    rw [← h]
    unfold dividedB
    rw [ha, hb, decide_eq_true h0]
    rfl
  refine ⟨e, ?_⟩
  unfold dividedP
  rw [h]
  exact over_done e
theorem divided_no {a b : Pl} {t : Bool} (h : dividedB a b = t) (h0 : polyB a = false ∨ polyB b = false ∨ b.cs.length = 0) : t = false ∧ dividedP a b = ⟨0, []⟩ := by
  have e : dividedB a b = false := by
    unfold dividedB
    rcases h0 with h0 | h0 | h0
    · rw [h0]; rfl
    · rw [h0, Bool.false_and, Bool.and_false]
    · rw [decide_eq_false (by omega), Bool.false_and, Bool.and_false, Bool.and_false]
  refine ⟨h.symm.trans e, ?_⟩
  unfold dividedP
  rw [e]
  rfl
theorem divided_zero {a b : Pl} {t : Bool} (h : dividedB a b = t) (ha : polyB a = true) (hb : polyB b = true) (h0 : 0 < b.cs.length) (h1 : a.cs.length = 0) : t = true ∧ dividedP a b = ⟨0, []⟩ := by
  have ea : a = ⟨0, []⟩ := trim_unique (polyB_trim ha).1 (.inl ⟨rfl, rfl⟩) fun k => by rw [pat_none h1, pat_nil]
  obtain ⟨e1, e2⟩ := divided_over h ha hb h0
  have e : overQ a b = some a := by unfold overQ; rw [if_pos h1]
  obtain ⟨e3, e4⟩ := over_some e
  refine ⟨by rw [← e1, e3, ha], ?_⟩
  rw [e2, e4, ha, ea]
  rfl

end Go.Proofs.Ytakfobihakbefaa

/- The model's PolyOver. -/

namespace Go.Proofs.Ytakfobihakbefaa
open Go.RowKit

end Go.Proofs.Ytakfobihakbefaa

/- The model's PolyOver whatever comes in; both sides as the law wants them. -/

namespace Go.Proofs.Ytakfobihakbefaa
open Go.RowKit

end Go.Proofs.Ytakfobihakbefaa

/- The contracts of both sides' functions on polynomials, the answer under a name of its own. -/

namespace Go.Proofs.Ytakfobihakbefaa
open Go.RowKit

/-- Coefficients that came in or were answered. -/
structure PIn (w : World) (a : Option Addr) (n c : Nat) (zs : List Int) : Prop where
  is : Ints w a n zs
  le : n ≤ c
theorem PIn.below {w w' : World} {a : Option Addr} {n c : Nat} {zs : List Int} (h : PIn w a n c zs) (hb : Below w.heap.size w w') : PIn w' a n c zs := ⟨h.is.below hb, h.le⟩
theorem PIn.len {w : World} {a : Option Addr} {n c : Nat} {zs : List Int} (h : PIn w a n c zs) : zs.length = n := h.is.len
/-- What a function that tells a polynomial comes to. -/
def PolyT (W : World) (b : Bool) (l : Int) (n : Nat) (zs : List Int) (e : Ending) (w' : World) : Prop := (∃ a c, e = .returned (.tuple #[plV l (.slice a n c), .bool b]) ∧ PIn w' a n c zs) ∧ Below W.heap.size W w'
theorem PolyT.of {W w' : World} {b t : Bool} {q : Pl} {l : Int} {zs : List Int} {n : Nat} {e : Ending} (h : (∃ v, e = .returned (.tuple #[plV l v, .bool b]) ∧ IntRow W.heap.size w' v zs) ∧ Below W.heap.size W w') (hb : t = true → polyB q = true) (hp : doneP t q = ⟨l, zs⟩) (hn : zs.length = n) : PolyT W b l n zs e w' := by
  subst hn
  obtain ⟨⟨v, rfl, hr⟩, hB⟩ := h
  obtain ⟨a, c, rfl, hc, hi⟩ := hr.readc (doneP_mem hb hp)
  exact ⟨⟨a, c, rfl, hi, hc⟩, hB⟩

theorem divided_in {a b : Pl} (h : dividedB a b = true) : polyB (overP a b) = true := by
  unfold dividedB at h
  simp only [Bool.and_eq_true] at h
  have h := h.2.2.2
  cases e : overQ a b with
  | none => rw [(over_none e).1] at h; exact absurd h (by decide)
  | some q =>
    obtain ⟨h1, h2⟩ := over_some e
    rw [h1] at h
    rw [h2, h]
    exact h

section
variable {W : World} {a a2 : Option Addr} {n c m c2 k : Nat} {x y pc : List Int} {b : Bool} {l l2 pl : Int}
theorem sPolyIn_t (h : PIn W a n c x) (hb : polyB ⟨l, x⟩ = b) : Calls Try.prog 74 #[plV l (.slice a n c)] W fun e w' => e = .returned (.bool b) ∧ Below W.heap.size W w' := sPolyIn_any l x a c n b W h.is hb
theorem sPolyPlain_t (h : PIn W a n c x) (hb : polyB ⟨l, x⟩ = b) (hp : plainedP ⟨l, x⟩ = ⟨pl, pc⟩) (hk : pc.length = k) : Calls Try.prog 26 #[plV l (.slice a n c)] W (PolyT W b pl k pc) := by
  refine (sPolyPlain_any l x a c n b W h.is hb).mono fun e w' hh => ?_
  rw [show doneP b (plainP ⟨l, x⟩) = ⟨pl, pc⟩ by rw [← hb]; exact hp] at hh
  exact PolyT.of hh plain_polyB hp hk
theorem sPolyAdd_t (h : PIn W a n c x) (h2 : PIn W a2 m c2 y) (hb : addPB ⟨l, x⟩ ⟨l2, y⟩ = b) (hp : addP ⟨l, x⟩ ⟨l2, y⟩ = ⟨pl, pc⟩) (hk : pc.length = k) : Calls Try.prog 110 #[plV l (.slice a n c), plV l2 (.slice a2 m c2)] W (PolyT W b pl k pc) := by
  refine (sPolyAdd_any l l2 x y a a2 c c2 n m _ _ b W h.is h2.is h.le rfl rfl hb).mono fun e w' hh => ?_
  rw [show doneP b (sumP ⟨l, x⟩ 1 ⟨l2, y⟩) = ⟨pl, pc⟩ by rw [← hb]; exact hp] at hh
  exact PolyT.of hh (fun e => by unfold addPB at e; simp only [Bool.and_eq_true] at e; exact e.2.2) hp hk
theorem sPolyTimes_t (h : PIn W a n c x) (h2 : PIn W a2 m c2 y) (hb : timesPB ⟨l, x⟩ ⟨l2, y⟩ = b) (hp : timesP ⟨l, x⟩ ⟨l2, y⟩ = ⟨pl, pc⟩) (hk : pc.length = k) : Calls Try.prog 128 #[plV l (.slice a n c), plV l2 (.slice a2 m c2)] W (PolyT W b pl k pc) := by
  refine (sPolyTimes_any l l2 x y a a2 c c2 n m _ _ b W h.is h2.is rfl rfl hb).mono fun e w' hh => ?_
  rw [show doneP b (prodP ⟨l, x⟩ ⟨l2, y⟩) = ⟨pl, pc⟩ by rw [← hb]; exact hp] at hh
  exact PolyT.of hh (fun e => by unfold timesPB at e; simp only [Bool.and_eq_true] at e; exact e.2.2) hp hk
theorem iPolyIn_t (h : PIn W a n c x) (hb : polyB ⟨l, x⟩ = b) : Calls Try.prog 70 #[plV l (.slice a n c)] W fun e w' => e = .returned (.bool b) ∧ Below W.heap.size W w' := iPolyIn_any l x a c n b W h.is h.le hb
theorem iPolyPlain_t (h : PIn W a n c x) (hb : polyB ⟨l, x⟩ = b) (hp : plainedP ⟨l, x⟩ = ⟨pl, pc⟩) (hk : pc.length = k) : Calls Try.prog 25 #[plV l (.slice a n c)] W (PolyT W b pl k pc) := by
  refine (iPolyPlain_any l x a c n b W h.is h.le hb).mono fun e w' hh => ?_
  rw [show doneP b (plainP ⟨l, x⟩) = ⟨pl, pc⟩ by rw [← hb]; exact hp] at hh
  exact PolyT.of hh plain_polyB hp hk
theorem iPolyAdd_t (h : PIn W a n c x) (h2 : PIn W a2 m c2 y) (hb : addPB ⟨l, x⟩ ⟨l2, y⟩ = b) (hp : addP ⟨l, x⟩ ⟨l2, y⟩ = ⟨pl, pc⟩) (hk : pc.length = k) : Calls Try.prog 48 #[plV l (.slice a n c), plV l2 (.slice a2 m c2)] W (PolyT W b pl k pc) := by
  refine (iPolyAdd_any l l2 x y a a2 c c2 n m _ _ b W h.is h2.is h.le h2.le rfl rfl hb).mono fun e w' hh => ?_
  rw [show doneP b (sumP ⟨l, x⟩ 1 ⟨l2, y⟩) = ⟨pl, pc⟩ by rw [← hb]; exact hp] at hh
  exact PolyT.of hh (fun e => by unfold addPB at e; simp only [Bool.and_eq_true] at e; exact e.2.2) hp hk
theorem iPolyTimes_t (h : PIn W a n c x) (h2 : PIn W a2 m c2 y) (hb : timesPB ⟨l, x⟩ ⟨l2, y⟩ = b) (hp : timesP ⟨l, x⟩ ⟨l2, y⟩ = ⟨pl, pc⟩) (hk : pc.length = k) : Calls Try.prog 44 #[plV l (.slice a n c), plV l2 (.slice a2 m c2)] W (PolyT W b pl k pc) := by
  refine (iPolyTimes_any l l2 x y a a2 c c2 n m _ _ b W h.is h2.is h.le h2.le rfl rfl hb).mono fun e w' hh => ?_
  rw [show doneP b (prodP ⟨l, x⟩ ⟨l2, y⟩) = ⟨pl, pc⟩ by rw [← hb]; exact hp] at hh
  exact PolyT.of hh (fun e => by unfold timesPB at e; simp only [Bool.and_eq_true] at e; exact e.2.2) hp hk
theorem sPolyAlike_t (h : PIn W a n c x) (h2 : PIn W a2 m c2 y) (hb : alikeB ⟨l, x⟩ ⟨l2, y⟩ = b) : Calls Try.prog 30 #[plV l (.slice a n c), plV l2 (.slice a2 m c2)] W fun e w' => e = .returned (.bool b) ∧ Below W.heap.size W w' := sPolyAlike_any l l2 x y a a2 c c2 n m _ _ b W h.is h2.is rfl rfl hb
theorem iPolyAlike_t (h : PIn W a n c x) (h2 : PIn W a2 m c2 y) (hb : alikeB ⟨l, x⟩ ⟨l2, y⟩ = b) : Calls Try.prog 28 #[plV l (.slice a n c), plV l2 (.slice a2 m c2)] W fun e w' => e = .returned (.bool b) ∧ Below W.heap.size W w' := iPolyAlike_any l l2 x y a a2 c c2 n m _ _ b W h.is h2.is h.le h2.le rfl rfl hb
end

end Go.Proofs.Ytakfobihakbefaa

/- Products and quotients as functions answer them (mathematics). -/

namespace Go.Proofs.Ytakfobihakbefaa
open Go.RowKit

theorem times_true {a b : Pl} (h : timesPB a b = true) : polyB a = true ∧ polyB b = true ∧ polyB (prodP a b) = true ∧ timesP a b = prodP a b := by
  have h' := h
  unfold timesPB at h
  simp only [Bool.and_eq_true] at h
  refine ⟨h.1, h.2.1, h.2.2, ?_⟩
  unfold timesP
  rw [h']
  rfl
theorem times_comm (a b : Pl) : timesPB b a = timesPB a b ∧ timesP b a = timesP a b := by
  have e : timesPB b a = timesPB a b := by
    unfold timesPB
    rw [prod_comm b a]
    cases polyB a <;> cases polyB b <;> rfl
  refine ⟨e, ?_⟩
  unfold timesP
  rw [e, prod_comm b a]
theorem over_times {a b : Pl} (h : timesPB a b = true) (h0 : 0 < b.cs.length) (hxa : ∀ i, -4 ≤ a.cs.getD i 0 ∧ a.cs.getD i 0 ≤ 4) (hxb : ∀ i, -4 ≤ b.cs.getD i 0 ∧ b.cs.getD i 0 ≤ 4) (hl : a.cs.length ≤ 1000) : dividedB (timesP a b) b = true ∧ dividedP (timesP a b) b = a := by
  obtain ⟨h1, h2, h3, h4⟩ := times_true h
  rw [h4]
  have e := over_prod (polyB_trim h1).1 (polyB_trim h2).1 h0 hxa hxb hl
  obtain ⟨e1, e2⟩ := over_some e
  have hb : dividedB (prodP a b) b = true := by
    unfold dividedB
    rw [h3, h2, decide_eq_true h0, e1, h1]
    rfl
  refine ⟨hb, ?_⟩
  rw [(divided_over hb h3 h2 h0).2, e2, h1]
  rfl
theorem times_over {a b : Pl} (h : dividedB a b = true) : timesPB (dividedP a b) b = true ∧ timesP (dividedP a b) b = a := by
  have h' := h
  unfold dividedB at h
  simp only [Bool.and_eq_true, decide_eq_true_eq] at h
  obtain ⟨h1, h2, h0, h3⟩ := h
  have hp : dividedP a b = overP a b := (divided_over h' h1 h2 h0).2
  cases e : overQ a b with
  | none => rw [(over_none e).1] at h3; exact absurd h3 (by decide)
  | some p =>
    obtain ⟨e1, e2⟩ := over_some e
    rw [e1] at h3
    have ep : dividedP a b = p := by rw [hp, e2, h3]; rfl
    have hm := over_back (polyB_trim h1).1 h0 e
    rw [ep]
    have hb : timesPB p b = true := by
      unfold timesPB
      rw [h3, h2, hm, h1]
      rfl
    exact ⟨hb, by rw [(times_true hb).2.2.2, hm]⟩

end Go.Proofs.Ytakfobihakbefaa

/- Values at 1; turned, plain ones and sums again (mathematics). -/

namespace Go.Proofs.Ytakfobihakbefaa
open Go.RowKit

/-- The value with 1 in the place of t. -/
def valP (p : Pl) : Int := oneP p.cs p.cs.length
theorem oneP_sumN (l : List Int) : ∀ k, oneP l k = sumN (fun i => l.getD i 0) k
  | 0 => rfl
  | k + 1 => by rw [oneP, sumN, oneP_sumN l k]
theorem sumN_split (f : Nat → Int) (a : Nat) : ∀ b, sumN f (a + b) = sumN f a + sumN (fun i => f (a + i)) b
  | 0 => by rw [Nat.add_zero, sumN, Int.add_zero]
  | b + 1 => by rw [← Nat.add_assoc, sumN, sumN, sumN_split f a b]; omega
/-- A window that holds all coefficients. -/
theorem val_window (p : Pl) {lo : Int} {n : Nat} (h1 : lo ≤ p.low) (h2 : p.low + p.cs.length ≤ lo + n) : sumN (fun i => pat p (lo + (i : Int))) n = valP p := by
  obtain ⟨a, ha⟩ : ∃ a : Nat, p.low = lo + (a : Int) := ⟨(p.low - lo).toNat, by omega⟩
  obtain ⟨b, hb⟩ : ∃ b : Nat, n = a + b := ⟨n - a, by omega⟩
  subst hb
  rw [sumN_split, sumN_none fun i hi => pat_low p (by omega), Int.zero_add, sumN_cut (m := p.cs.length) (by omega) fun i h3 _ => pat_high p (by omega)]
  unfold valP
  rw [oneP_sumN]
  refine sumN_congr fun i _ => ?_
  rw [show lo + ((a + i : Nat) : Int) = p.low + (i : Int) by omega, pat_at]
theorem val_pat {p q : Pl} (h : ∀ k, pat p k = pat q k) : valP p = valP q := by
  obtain ⟨lo, h1, h2⟩ : ∃ lo : Int, lo ≤ p.low ∧ lo ≤ q.low := ⟨if p.low ≤ q.low then p.low else q.low, by split <;> omega, by split <;> omega⟩
  obtain ⟨n, h3, h4⟩ : ∃ n : Nat, p.low + p.cs.length ≤ lo + n ∧ q.low + q.cs.length ≤ lo + n := ⟨(p.low - lo).toNat + (q.low - lo).toNat + p.cs.length + q.cs.length, by omega, by omega⟩
  rw [← val_window p h1 h3, ← val_window q h2 h4]
  exact sumN_congr fun i _ => h _
theorem val_tidy (low : Int) (l : List Int) : valP (tidyP low l) = oneP l l.length := val_pat (q := ⟨low, l⟩) fun k => tidy_pat low l k
theorem val_sum (a b : Pl) : valP (sumP a 1 b) = valP a + valP b := by
  obtain ⟨lo, h1, h2, h5⟩ : ∃ lo : Int, lo ≤ a.low ∧ lo ≤ b.low ∧ lo ≤ (sumP a 1 b).low := ⟨-(a.low.natAbs : Int) - b.low.natAbs - (sumP a 1 b).low.natAbs, by omega, by omega, by omega⟩
  obtain ⟨n, h3, h4, h6⟩ : ∃ n : Nat, a.low + a.cs.length ≤ lo + n ∧ b.low + b.cs.length ≤ lo + n ∧ (sumP a 1 b).low + (sumP a 1 b).cs.length ≤ lo + n := ⟨(a.low - lo).toNat + (b.low - lo).toNat + ((sumP a 1 b).low - lo).toNat + a.cs.length + b.cs.length + (sumP a 1 b).cs.length, by omega, by omega, by omega⟩
  rw [← val_window a h1 h3, ← val_window b h2 h4, ← val_window _ h5 h6, ← sumN_add]
  refine sumN_congr fun i _ => ?_
  rw [sum_pat, Int.one_mul]
theorem val_prod (a b : Pl) : valP (prodP a b) = valP a * valP b := by
  obtain ⟨lo, h1, h2⟩ : ∃ lo : Int, lo ≤ (prodP a b).low ∧ lo ≤ a.low + b.low := ⟨-((prodP a b).low.natAbs : Int) - (a.low + b.low).natAbs, by omega, by omega⟩
  obtain ⟨n, h3, h4⟩ : ∃ n : Nat, (prodP a b).low + (prodP a b).cs.length ≤ lo + n ∧ a.low + b.low + a.cs.length + b.cs.length ≤ lo + n := ⟨((prodP a b).low - lo).toNat + (a.low + b.low - lo).toNat + (prodP a b).cs.length + a.cs.length + b.cs.length, by omega, by omega⟩
  rw [← val_window _ h1 h3]
  have e1 : sumN (fun i => pat (prodP a b) (lo + (i : Int))) n = sumN (fun i => sumN (fun m => a.cs.getD m 0 * pat b (lo + (i : Int) - (a.low + (m : Int)))) a.cs.length) n := sumN_congr fun i _ => prod_pat a b _
  rw [e1, sumN_swap]
  have e2 : sumN (fun m => sumN (fun i => a.cs.getD m 0 * pat b (lo + (i : Int) - (a.low + (m : Int)))) n) a.cs.length = sumN (fun m => valP b * a.cs.getD m 0) a.cs.length := sumN_congr fun m hm => by
    rw [sumN_mul, Int.mul_comm (valP b)]
    congr 1
    rw [← val_window b (lo := lo - (a.low + (m : Int))) (n := n) (by omega) (by omega)]
    exact sumN_congr fun i _ => by rw [show lo + (i : Int) - (a.low + (m : Int)) = lo - (a.low + (m : Int)) + (i : Int) by omega]
  rw [e2, sumN_mul, Int.mul_comm]
  congr 1
  unfold valP
  rw [oneP_sumN]
theorem oneP_far (l : List Int) : ∀ m, oneP l (l.length + m) = oneP l l.length
  | 0 => rfl
  | m + 1 => by rw [← Nat.add_assoc, oneP, oneP_far l m, getD_far (by omega), Int.add_zero]
theorem sumN_back (f : Nat → Int) : ∀ n, sumN (fun i => f (n - 1 - i)) n = sumN f n
  | 0 => rfl
  | n + 1 => by
    have h := sumN_split (fun i => f (n + 1 - 1 - i)) 1 n
    rw [Nat.add_comm 1 n] at h
    rw [h, sumN, sumN, sumN, ← sumN_back f n, Int.zero_add, show n + 1 - 1 - 0 = n by omega, Int.add_comm]
    congr 1
    exact sumN_congr fun i _ => by rw [show n + 1 - 1 - (1 + i) = n - 1 - i by omega]
theorem val_turn (a : Pl) : valP (turnP a) = valP a := by
  unfold turnP
  rw [val_tidy, List.length_reverse, oneP_sumN]
  unfold valP
  rw [oneP_sumN, ← sumN_back (fun i => a.cs.getD i 0)]
  refine sumN_congr fun i hi => ?_
  rw [List.getD_eq_getElem?_getD, List.getElem?_reverse hi, ← List.getD_eq_getElem?_getD]
theorem turnP_turnP {a : Pl} (h : Trim a) : turnP (turnP a) = a := trim_unique (tidy_trim _ _) h fun k => by rw [turn_pat, turn_pat, Int.neg_neg]
theorem val_bound {p : Pl} (h : polyB p = true) : -200000000000 ≤ valP p ∧ valP p ≤ 200000000000 := by
  obtain ⟨_, h1, _, _, h2⟩ := polyB_trim h
  have := oneP_bound (l := p.cs) h2 p.cs.length
  unfold valP
  omega
theorem turned_true {a : Pl} (h : turnedPB a = true) : polyB a = true ∧ turnedP a = turnP a ∧ polyB (turnP a) = true ∧ turnedPB (turnP a) = true ∧ turnedP (turnP a) = a := by
  have h' := h
  unfold turnedPB at h
  simp only [Bool.and_eq_true] at h
  have e : turnedPB (turnP a) = true := by
    unfold turnedPB
    rw [h.2, turnP_turnP (polyB_trim h.1).1, h.1]
    rfl
  refine ⟨h.1, ?_, h.2, e, ?_⟩
  · unfold turnedP; rw [h']; rfl
  · unfold turnedP; rw [e, turnP_turnP (polyB_trim h.1).1]; rfl
theorem sum_comm {a b : Pl} (ha : Trim a) (hb : Trim b) : sumP b 1 a = sumP a 1 b := trim_unique (sum_trim _ _ hb) (sum_trim _ _ ha) fun k => by rw [sum_pat, sum_pat]; omega
theorem add_true {a b : Pl} (h : addPB a b = true) : polyB a = true ∧ polyB b = true ∧ polyB (sumP a 1 b) = true ∧ addP a b = sumP a 1 b ∧ addPB b a = true ∧ addP b a = sumP a 1 b := by
  have h' := h
  unfold addPB at h
  simp only [Bool.and_eq_true] at h
  have e : addPB b a = true := by
    unfold addPB
    rw [h.1, h.2.1, sum_comm (polyB_trim h.1).1 (polyB_trim h.2.1).1, h.2.2]
    rfl
  refine ⟨h.1, h.2.1, h.2.2, ?_, e, ?_⟩
  · unfold addP; rw [h']; rfl
  · unfold addP; rw [e, sum_comm (polyB_trim h.1).1 (polyB_trim h.2.1).1]; rfl
theorem plain_some {b : Pl} (h : ¬ b.cs.length = 0) : plainP b = ⟨0, b.cs.map fun z => (if b.cs.getD 0 0 < 0 then -1 else 1) * z⟩ := by unfold plainP; rw [if_neg h]
theorem plain_plain (a : Pl) : plainP (plainP a) = plainP a := by
  by_cases h0 : a.cs.length = 0
  · have e : plainP a = a := by unfold plainP; rw [if_pos h0]
    rw [e, e]
  · have hlen : (plainP a).cs.length = a.cs.length := plain_len a
    have hlow : (plainP a).low = 0 := plain_low (by omega)
    have e : (plainP a).cs = a.cs.map fun z => (if a.cs.getD 0 0 < 0 then -1 else 1) * z := by unfold plainP; rw [if_neg h0]
    have hz : (plainP a).cs.getD 0 0 = (if a.cs.getD 0 0 < 0 then -1 else 1) * a.cs.getD 0 0 := by
      rw [e, List.getD_eq_getElem?_getD, List.getElem?_map, List.getElem?_eq_getElem (by omega), List.getD_eq_getElem?_getD, List.getElem?_eq_getElem (by omega)]
      rfl
    have hn : ¬ (plainP a).cs.getD 0 0 < 0 := by
      rw [hz]
      split <;> omega
    have e2 : plainP (plainP a) = ⟨0, (plainP a).cs.map fun z => (if (plainP a).cs.getD 0 0 < 0 then -1 else 1) * z⟩ := plain_some (by rw [hlen]; exact h0)
    rw [e2, if_neg hn]
    have e3 : ((plainP a).cs.map fun z => 1 * z) = (plainP a).cs := by
      rw [show (fun z : Int => 1 * z) = id from funext fun z => Int.one_mul z, List.map_id]
    rw [e3]
    show (⟨0, (plainP a).cs⟩ : Pl) = plainP a
    rw [← hlow]

end Go.Proofs.Ytakfobihakbefaa

/- The program's sums of parts. -/

namespace Go.Proofs.Ytakfobihakbefaa
open Go.RowKit Go.Shelf

def sumO (f : Nat → Option Pl) : Nat → Option Pl
  | 0 => some zeroP
  | k + 1 => match sumO f k with
    | none => none
    | some s => match f k with
      | none => none
      | some p => addO s p
/-- As AtE, and the polynomial may lie anywhere. -/
def AtF (W : World) (o : Option Pl) (e : Ending) (w' : World) : Prop :=
  ((∃ l a n c, o = none ∧ e = .returned (.tuple #[plV l (.slice a n c), .bool false])) ∨ (∃ p a n c, o = some p ∧ e = .returned (.tuple #[plV p.low (.slice a n c), .bool true]) ∧ IntRow 0 w' (.slice a n c) p.cs)) ∧ Below W.heap.size W w'
theorem AtE.f {W : World} {o : Option Pl} {e : Ending} {w' : World} (h : AtE W o e w') : AtF W o e w' :=
  ⟨h.1.imp id fun ⟨p, a, n, c, h1, h2, h3⟩ => ⟨p, a, n, c, h1, h2, h3.mono (Nat.zero_le _)⟩, h.2⟩
/-- What a function that tells a polynomial comes to: 0 if there is none. -/
def AtZ (W : World) (o : Option Pl) (e : Ending) (w' : World) : Prop :=
  (∃ a n c, e = .returned (.tuple #[plV (o.getD zeroP).low (.slice a n c), .bool o.isSome]) ∧ IntRow W.heap.size w' (.slice a n c) (o.getD zeroP).cs) ∧ Below W.heap.size W w'
theorem AtZ.atE {W : World} {o : Option Pl} {e : Ending} {w' : World} (h : AtZ W o e w') : AtE W o e w' := by
  obtain ⟨⟨a, n, c, rfl, hr⟩, hb⟩ := h
  cases o with
  | none => exact ⟨.inl ⟨_, _, _, _, rfl, rfl⟩, hb⟩
  | some p => exact ⟨.inr ⟨p, _, _, _, rfl, rfl, hr⟩, hb⟩
theorem AtZ.no {W w' : World} {o : Option Pl} (h : o = none) (hb : Below W.heap.size W w') : AtZ W o (.returned (.tuple #[plV 0 (.slice none 0 0), .bool false])) w' := by
  subst h
  exact ⟨⟨_, _, _, rfl, intNil _ _⟩, hb⟩
theorem AtZ.yes {W w' : World} {o : Option Pl} {p : Pl} {a : Option Addr} {n c : Nat} (h : o = some p) (hr : IntRow W.heap.size w' (.slice a n c) p.cs) (hb : Below W.heap.size W w') : AtZ W o (.returned (.tuple #[plV p.low (.slice a n c), .bool true])) w' := by
  subst h
  exact ⟨⟨_, _, _, rfl, hr⟩, hb⟩
theorem IntRow.pin {base : Nat} {w : World} {a : Option Addr} {n c : Nat} {p : Pl} (h : IntRow base w (.slice a n c) p.cs) (hp : polyB p = true) : PIn w a n c p.cs ∧ p.cs.length = n := by
  obtain ⟨a2, c2, e, h1, h2⟩ := h.readc fun z hz => by have := coefIn_yes (polyB_coef hp z hz); omega
  simp only [Value.slice.injEq] at e
  obtain ⟨rfl, rfl, rfl⟩ := e
  exact ⟨⟨h2, h1⟩, rfl⟩
theorem addO_B {s p q : Pl} (h : addO s p = some q) : polyB q = true ∧ addPB s p = true ∧ addP s p = q := by
  unfold addO at h
  split at h
  · rename_i hb
    simp only [Option.some.injEq] at h
    obtain ⟨_, _, h3, h4, _⟩ := add_true hb
    refine ⟨?_, hb, h⟩
    rw [← h, h4]; exact h3
  · cases h
theorem sumO_B {f : Nat → Option Pl} : ∀ {k : Nat} {s : Pl}, sumO f k = some s → polyB s = true
  | 0, s, h => by simp only [sumO, Option.some.injEq] at h; rw [← h]; exact zero_B
  | k + 1, s, h => by
    unfold sumO at h
    cases h1 : sumO f k with
    | none => rw [h1] at h; cases h
    | some q =>
      rw [h1] at h
      cases h2 : f k with
      | none => rw [h2] at h; cases h
      | some p => rw [h2] at h; exact (addO_B h).1
/-- A sum that has failed stays so. -/
theorem sumO_stop {f : Nat → Option Pl} {k : Nat} (h : sumO f k = none) : ∀ n, k ≤ n → sumO f n = none := by
  intro n hn
  induction n with
  | zero => obtain rfl : k = 0 := by omega
            exact h
  | succ n ih =>
    by_cases e : k = n + 1
    · subst e; exact h
    · unfold sumO
      rw [ih (by omega)]

theorem sumO_next {f : Nat → Option Pl} {k : Nat} {s p : Pl} {b : Bool} (h1 : sumO f k = some s) (h2 : f k = some p) (hb : addPB s p = b) : sumO f (k + 1) = if b = true then some (addP s p) else none := by
  subst hb
  simp only [sumO, h1, h2, addO]
abbrev RST : TypeId := 91
theorem iPolyAdd_o {W : World} {a1 a2 : Option Addr} {n1 n2 c1 c2 : Nat} {p q : Pl} {b : Bool} (h1 : PIn W a1 n1 c1 p.cs) (h2 : PIn W a2 n2 c2 q.cs) (hb : addPB p q = b) :
    Calls Try.prog 48 #[plV p.low (.slice a1 n1 c1), plV q.low (.slice a2 n2 c2)] W fun e w' => (∃ a n c, e = .returned (.tuple #[plV (addP p q).low (.slice a n c), .bool b]) ∧ IntRow W.heap.size w' (.slice a n c) (addP p q).cs) ∧ Below W.heap.size W w' := by
  refine (iPolyAdd_any p.low q.low p.cs q.cs a1 a2 c1 c2 n1 n2 _ _ b W h1.is h2.is h1.le h2.le rfl rfl hb).mono ?_
  rintro e w' ⟨⟨v, rfl, hr⟩, hB⟩
  rw [show doneP b (sumP ⟨p.low, p.cs⟩ 1 ⟨q.low, q.cs⟩) = addP p q by rw [← hb]; rfl] at hr ⊢
  obtain ⟨a, _, c, rfl, _⟩ := hr.shape
  exact ⟨⟨_, _, _, rfl, hr⟩, hB⟩
structure SumAt (w : World) (n : Nat) (fv : Value) (s : Pl) (a : Option Addr) (m c : Nat) (wr : World) : Prop where
  below : Below w.heap.size w wr
  size : w.heap.size + 3 ≤ wr.heap.size
  b0 : wr.heap[w.heap.size]? = some (.cells #[.int .i64 n, fv] RST (0, 0))
  b1 : wr.heap[w.heap.size + 1]? = some (.cells #[.int .i64 0, .slice none 0 0] PO (0, 0))
  b2 : wr.heap[w.heap.size + 1 + 1]? = some (.cells #[.int .i64 s.low, .slice a m c] PO (0, 0))
  row : IntRow (w.heap.size + 3) wr (.slice a m c) s.cs
theorem SumAt.bel {w wr w2 : World} {n : Nat} {fv : Value} {s : Pl} {a : Option Addr} {m c : Nat} (h : SumAt w n fv s a m c wr) (hb : Below wr.heap.size wr w2) : SumAt w n fv s a m c w2 := by
  have hs := h.size
  exact ⟨h.below.trans (hb.mono h.below.size), Nat.le_trans h.size hb.size, (hb.block _ (by omega)).trans h.b0, (hb.block _ (by omega)).trans h.b1, (hb.block _ (by omega)).trans h.b2, h.row.below hb⟩
theorem SumAt.cells {w wr : World} {n : Nat} {fv : Value} {s : Pl} {a : Option Addr} {m c : Nat} (h : SumAt w n fv s a m c wr) :
    wr.cell? ⟨w.heap.size, 1, none⟩ = some fv ∧ wr.cell? ⟨w.heap.size + 1, 0, none⟩ = some (.int .i64 0) ∧ wr.cell? ⟨w.heap.size + 1, 1, none⟩ = some (.slice none 0 0) ∧ wr.cell? ⟨w.heap.size + 1 + 1, 0, none⟩ = some (.int .i64 s.low) ∧ wr.cell? ⟨w.heap.size + 1 + 1, 1, none⟩ = some (.slice a m c) ∧
    wr.frozen? ⟨w.heap.size + 1, 0, none⟩ = false ∧ wr.frozen? ⟨w.heap.size + 1, 1, none⟩ = false ∧ wr.frozen? ⟨w.heap.size + 1 + 1, 0, none⟩ = false ∧ wr.frozen? ⟨w.heap.size + 1 + 1, 1, none⟩ = false := by
  have h0 := h.b0
  have h1 := h.b1
  have h2 := h.b2
  refine ⟨?_, ?_, ?_, ?_, ?_, ?_, ?_, ?_, ?_⟩ <;> simp [World.cell?, World.frozen?, h0, h1, h2]
theorem SumAt.start (w : World) (n : Nat) (fv : Value) : SumAt w n fv zeroP none 0 0 (((w.alloc (.cells #[.int .i64 n, fv] RST)).alloc (.cells #[.int .i64 0, .slice none 0 0] PO)).alloc (.cells #[.int .i64 0, .slice none 0 0] PO)) := by
  refine ⟨(((Below.refl _ w).alloc (Nat.le_refl _) _).alloc (by simp) _).alloc (by simp; omega) _, by simp, ?_, ?_, ?_, intNil _ _⟩
  · rw [Below.heap_alloc _ _ _ (by simp; omega), Below.heap_alloc _ _ _ (by simp)]
    exact World.alloc_heap_new w _
  · rw [Below.heap_alloc _ _ _ (by simp)]
    have h := World.alloc_heap_new (w.alloc (.cells #[.int .i64 n, fv] RST)) (.cells #[.int .i64 0, .slice none 0 0] PO)
    rwa [World.size_alloc] at h
  · have h := World.alloc_heap_new ((w.alloc (.cells #[.int .i64 n, fv] RST)).alloc (.cells #[.int .i64 0, .slice none 0 0] PO)) (.cells #[.int .i64 0, .slice none 0 0] PO)
    rwa [World.size_alloc, World.size_alloc] at h
/-- The sum is stored anew. -/
theorem SumAt.next {w wr : World} {n : Nat} {fv : Value} {s q : Pl} {a a2 : Option Addr} {m c m2 c2 : Nat} (h : SumAt w n fv s a m c wr) (hr : IntRow (w.heap.size + 3) wr (.slice a2 m2 c2) q.cs) :
    SumAt w n fv q a2 m2 c2 ((wr.setCell ⟨w.heap.size + 1 + 1, 0, none⟩ (.int .i64 q.low)).setCell ⟨w.heap.size + 1 + 1, 1, none⟩ (.slice a2 m2 c2)) := by
  have hs := h.size
  have hoff : ∀ b, b ≠ w.heap.size + 1 + 1 → ((wr.setCell ⟨w.heap.size + 1 + 1, 0, none⟩ (.int .i64 q.low)).setCell ⟨w.heap.size + 1 + 1, 1, none⟩ (.slice a2 m2 c2)).heap[b]? = wr.heap[b]? := fun b hb => by
    rw [heap_off _ _ _ (by show b ≠ w.heap.size + 1 + 1; exact hb), heap_off _ _ _ (by show b ≠ w.heap.size + 1 + 1; exact hb)]
  refine ⟨(h.below.setCell (p := ⟨w.heap.size + 1 + 1, 0, none⟩) (by show w.heap.size ≤ w.heap.size + 1 + 1; omega) _).setCell (p := ⟨w.heap.size + 1 + 1, 1, none⟩) (by show w.heap.size ≤ w.heap.size + 1 + 1; omega) _, by simp; omega, (hoff _ (by omega)).trans h.b0, (hoff _ (by omega)).trans h.b1, ?_, ?_⟩
  · rw [heap_setCell_same _ (w.heap.size + 1 + 1) 1 _ _ _ (heap_setCell_same wr (w.heap.size + 1 + 1) 0 _ _ _ h.b2)]
    simp
  · exact ownsRow_setCell_below (ownsRow_setCell_below hr (a := ⟨w.heap.size + 1 + 1, 0, none⟩) (by show w.heap.size + 1 + 1 < w.heap.size + 3; omega) _) (a := ⟨w.heap.size + 1 + 1, 1, none⟩) (by show w.heap.size + 1 + 1 < w.heap.size + 3; omega) _

set_option maxRecDepth 100000 in
set_option maxHeartbeats 4000000 in
theorem sumTold_any (F : Nat) (first lb : Array Value) (n : Nat) (f : Nat → Option Pl) (w : World) (hn : n ≤ 4) (eg : ∀ args w, (callFunc F args).run Try.prog w = .ok (.enter F args) w) (hfp : ∀ k p, k < n → f k = some p → polyB p = true)
    (hat : ∀ (k : Nat) (W : World), k < n → Below w.heap.size w W → Calls Try.prog F (first.push (.int .i64 (k : Int)) ++ lb) W (AtF W (f k))) :
    Calls Try.prog 92 #[.agg #[.int .i64 n, .func (.func F) first lb]] w (AtZ w (sumO f n)) := by
  have HST := Lib.hid (SumAt.start w n (.func (.func F) first lb))
  have HAT := Lib.hid hat
  have HFP := Lib.hid hfp
  clear hat hfp
  go_enter Try.func92, Try.ntmps92
  go_wp2
  go_loopw [11] (fun x wr => ∃ (k : Nat) (s : Pl) (a : Option Addr) (m c : Nat), k ≤ n ∧ x = .int .i64 k ∧ Hid (sumO f k = some s) ∧ Hid (SumAt w n (.func (.func F) first lb) s a m c wr)) (fun x _ => n - (intOf x).toNat)
  case atStart => exact ⟨0, zeroP, _, _, _, Nat.zero_le _, rfl, Lib.hid rfl, HST⟩
  case round =>
    obtain ⟨k, s, a, m, c, hk, rfl, HS, HA⟩ := hrel
    obtain ⟨q0, d0, d1, e0, e1, f0, f1, g0, g1⟩ := HA.out.cells
    by_cases hlt : k < n
    · clear d0 d1 e0 e1 f0 f1 g0 g1
      go_wp2_with fail
      refine (HAT.out k wr hlt HA.out.below).mono ?_
      rintro e w2 ⟨⟨l, a2, n2, c2, hf, rfl⟩ | ⟨p, a2, n2, c2, hf, rfl, hr⟩, hb2⟩
      · have HA2 := Lib.hid ((HA.out.bel hb2).bel ((Below.refl w2.heap.size w2).alloc (Nat.le_refl _) (.cells #[.int .i64 l, .slice a2 n2 c2] PO)))
        obtain ⟨q0, d0, d1, e0, e1, f0, f1, g0, g1⟩ := HA2.out.cells
        have HN : Hid (sumO f n = none) := Lib.hid (sumO_stop (k := k + 1) (by unfold sumO; rw [HS.out, hf]) n (by omega))
        clear hf hb2
        go_wp2
        refine bodyPost_ret (v := .tuple #[plV 0 (.slice none 0 0), .bool false]) ?_ rfl (AtZ.no HN.out (resBelow1 (.int .i64 0) (.slice none 0 0) HA2.out.below))
        simp [results, Try.results92, go_sem, d0, d1, plV]
      · have hpB := HFP.out k p hlt hf
        have HA2 := Lib.hid ((HA.out.bel hb2).bel ((Below.refl w2.heap.size w2).alloc (Nat.le_refl _) (.cells #[.int .i64 p.low, .slice a2 n2 c2] PO)))
        obtain ⟨q0, d0, d1, e0, e1, f0, f1, g0, g1⟩ := HA2.out.cells
        have hrA := hr.below ((Below.refl w2.heap.size w2).alloc (Nat.le_refl _) (.cells #[.int .i64 p.low, .slice a2 n2 c2] PO))
        have hP2 := (hrA.pin hpB).1
        have hP1 := (HA2.out.row.pin (sumO_B HS.out)).1
        obtain ⟨b, hb⟩ : ∃ b, addPB s p = b := ⟨_, rfl⟩
        have HADD := Lib.hid (iPolyAdd_o hP1 hP2 hb)
        have HF := Lib.hid hf
        have HBB := Lib.hid hb
        clear hf hb2 hr hrA hP1 hP2 hpB hb
        go_wp2_with fail
        refine HADD.out.mono ?_
        rintro e w3 ⟨⟨a3, n3, c3, rfl, hr3⟩, hb3⟩
        have hA3 := HA2.out.bel hb3
        have HA3 := Lib.hid hA3
        have HR3 := Lib.hid (hr3.mono HA2.out.size)
        obtain ⟨q0, d0, d1, e0, e1, f0, f1, g0, g1⟩ := HA3.out.cells
        have HN3 := Lib.hid (HA3.out.next HR3.out)
        obtain ⟨r0, h0, h1, i0, i1, j0, j1, k0, k1⟩ := HN3.out.cells
        clear hb3 hr3 hA3
        cases b with
        | false =>
          have HN : Hid (sumO f n = none) := Lib.hid (sumO_stop (k := k + 1) (by rw [sumO_next HS.out HF.out HBB.out]; rfl) n (by omega))
          go_wp2
          refine bodyPost_ret (v := .tuple #[plV 0 (.slice none 0 0), .bool false]) ?_ rfl (AtZ.no HN.out (resBelow1 (.int .i64 0) (.slice none 0 0) HN3.out.below))
          simp [results, Try.results92, go_sem, h0, h1, plV]
        | true =>
          have HS3 : Hid (sumO f (k + 1) = some (addP s p)) := Lib.hid (by rw [sumO_next HS.out HF.out HBB.out]; rfl)
          clear h0 h1 i0 i1 j0 j1 k0 k1 r0
          go_wp2
          go_roundw
          case rel => exact ⟨k + 1, addP s p, a3, n3, c3, by omega, by go_num, HS3, HN3⟩
          case measure => simp [intOf]; omega
    · obtain rfl : k = n := by omega
      go_wp2
      have hA : AtZ w (sumO f k) (.returned (.tuple #[plV s.low (.slice a m c), .bool true])) ((wr.setCell ⟨w.heap.size + 1, 0, none⟩ (.int .i64 s.low)).setCell ⟨w.heap.size + 1, 1, none⟩ (.slice a m c)) :=
        AtZ.yes HS.out (resRow1 (.int .i64 s.low) (.slice a m c) HA.out.row (by omega)) (resBelow1 (.int .i64 s.low) (.slice a m c) HA.out.below)
      refine bodyPost_ret (v := .tuple #[plV s.low (.slice a m c), .bool true]) ?_ rfl hA
      simp [results, Try.results92, go_sem, d0, d1, plV]

end Go.Proofs.Ytakfobihakbefaa

/- The program's squareOf and MatrixTrace. -/

namespace Go.Proofs.Ytakfobihakbefaa
open Go.RowKit Go.Shelf

theorem traceS_sum (M : Mx) : ∀ k, traceS M k = sumO (fun i => some (at2 M i i)) k
  | 0 => rfl
  | k + 1 => by
    unfold traceS sumO
    rw [traceS_sum M k]
    cases sumO (fun i => some (at2 M i i)) k <;> rfl
theorem traceM_no {M : Mx} (h : ¬ (matB M = true ∧ M.length = colsM M)) : traceM M = none := by
  unfold traceM
  rw [if_neg]
  simpa using h
theorem traceM_yes {M : Mx} (h : matB M = true) (h2 : M.length = colsM M) : traceM M = sumO (fun i => some (at2 M i i)) M.length := by
  unfold traceM
  rw [if_pos (by simp [h, h2])]
  exact traceS_sum M _
/-- What squareOf comes to. -/
def SqR (w : World) (M : Mx) (e : Ending) (w' : World) : Prop :=
  (((matB M = true ∧ M.length = colsM M) ∧ ∃ g pv, e = .returned (.agg (mC g)) ∧ MatW w.heap.size w' g M.length M.length (at2 M) pv) ∨ (¬ (matB M = true ∧ M.length = colsM M) ∧ e = .returned (.agg (mC fun _ => none)))) ∧ Below w.heap.size w w'
/-- Both ends of matrixOf in one. -/
theorem MatR.any {w w' : World} {M : Mx} {e : Ending} (h : MatR w M e w') : ∃ g N C, e = .returned (.agg (mC g)) ∧ ShapeM g N C ∧ Below w.heap.size w w' ∧ ((matB M = true ∧ N = M.length ∧ C = colsM M ∧ ∃ pv, MatW w.heap.size w' g N C (at2 M) pv) ∨ (matB M = false ∧ N = C ∧ g = fun _ => none)) := by
  obtain ⟨⟨h1, g, pv, rfl, hM⟩ | ⟨h1, rfl⟩, hb⟩ := h
  · exact ⟨g, _, _, rfl, hM.shp, hb, .inl ⟨h1, rfl, rfl, pv, hM⟩⟩
  · exact ⟨_, 0, 0, rfl, ShapeM.none, hb, .inr ⟨h1, rfl, rfl⟩⟩

set_option maxRecDepth 100000 in
set_option maxHeartbeats 4000000 in
theorem squareOf_any (a : Option Addr) (c n : Nat) (M : Mx) (w : World) (hs : IsPSS w a n M) :
    Calls Try.prog 94 #[.slice a n c] w (SqR w M) := by
  have hmx : Try.prog.follows .mixedOrders = true := by kernel_rfl
  obtain ⟨W, hW⟩ : ∃ W, w.alloc (.cells (mC fun _ => none) MA) = W := ⟨_, rfl⟩
  have hsz : W.heap.size = w.heap.size + 1 := by rw [← hW]; simp
  have hbW : Below w.heap.size w W := by rw [← hW]; exact (Below.refl _ w).alloc (Nat.le_refl _) _
  have hres : W.heap[w.heap.size]? = some (.cells (mC fun _ => none) MA (0, 0)) := by rw [← hW]; exact World.alloc_heap_new w _
  have HS := Lib.hid (hs.below hbW)
  have HRES := Lib.hid hres
  have HBW := Lib.hid hbW
  simp only [mC] at hW
  have HW := Lib.hid hW
  clear hres hbW hs hW
  go_enter Try.func94, Try.ntmps94
  go_wp2_with fail
  rw [HW.out]
  refine (matrixOf_any a c n M W HS.out).mono ?_
  intro e w1 hR
  obtain ⟨g, N, C, rfl, hsh, hb1, hcase⟩ := hR.any
  clear hR
  have hs1 := hb1.size
  have HSH := Lib.hid hsh
  have HCASE := Lib.hid hcase
  have HB1 := Lib.hid hb1
  have HA1 := Lib.hid ((Below.refl w1.heap.size w1).alloc (Nat.le_refl _) (.cells (mC fun _ => none) MA))
  clear hsh hcase hb1
  go_wp2_with (refine wpList_store_mat rfl _ _ rfl w1.heap.size (fun _ => none) g rfl rfl (World.alloc_heap_new w1 (.cells (mC fun _ => none) MA)) ?_; intro w2 hp2)
  have HX2 := Lib.hid hp2.heap
  have HB2 := Lib.hid (hp2.below (HB1.out.trans (HA1.out.mono hs1)) hs1)
  have HC2 := Lib.hid (hp2.below HA1.out (Nat.le_refl _))
  clear hp2
  have hs2 := HB2.out.size
  have hlt2 : w1.heap.size < w2.heap.size := (Array.getElem?_eq_some_iff.1 HX2.out).1
  have HROW : Hid (∀ p : BelowBy w2, Calls Try.prog 89 #[.agg (mC g)] p.world fun e w' => e = .returned (.int .i64 N) ∧ Below p.world.heap.size p.world w') := Lib.hid fun p => rows_any g N C HSH.out p.world
  have HCOL : Hid (∀ p : BelowBy w2, Calls Try.prog 88 #[.agg (mC g)] p.world fun e w' => e = .returned (.int .i64 C) ∧ Below p.world.heap.size p.world w') := Lib.hid fun p => columns_any g N C HSH.out p.world
  have hpick : (N = C ∧ ((N : Int) == (C : Int)) = true ∧ ((N : Int) != (C : Int)) = false ∧ decide ((N : Int) = (C : Int)) = true) ∨ (N ≠ C ∧ ((N : Int) == (C : Int)) = false ∧ ((N : Int) != (C : Int)) = true ∧ decide ((N : Int) = (C : Int)) = false) := by
    by_cases e : N = C
    · subst e; exact .inl ⟨rfl, by simp, by simp, by simp⟩
    · have e2 : ¬ (N : Int) = (C : Int) := by omega
      exact .inr ⟨e, by simp [e2], by simp [e2], by simp [e2]⟩
  refine wp_region_below hmx (by kernel_rfl) ?_
  repeat (first
    | (refine wpQuiet_load_mat rfl _ rfl w1.heap.size g rfl HX2.out ?_)
    | ((with_reducible refine wpQuiet_step (fun K hK => ?_)); go_simp; first | ((with_reducible refine hK _ ?_); clear hK K) | (refine (if_neg (by decide)).mpr ?_; (with_reducible refine hK _ ?_); clear hK K) | (apply Exists.intro; (with_reducible refine ⟨fun _ => ?_, hK _ ?_⟩); (first | (go_at_call 88; exact Calls.bel (HCOL.out _)) | (go_at_call 89; exact Calls.bel (HROW.out _))); clear hK K)))
  with_reducible refine wpQuiet_nil ?_
  rintro _ ⟨⟨V, hV⟩, rfl⟩
  have HBV := Lib.hid (HB2.out.trans (hV.mono HB2.out.size))
  have HXV := Lib.hid ((hV.block w1.heap.size hlt2).trans HX2.out)
  have HRV := Lib.hid ((HBV.out.block w.heap.size (by omega)).trans HRES.out)
  have HMV := Lib.hid (HC2.out.trans (hV.mono HC2.out.size))
  clear hV
  rcases hpick with ⟨hNC, hd1, hd2, hd3⟩ | ⟨hNC, hd1, hd2, hd3⟩
  · go_wp2_with (first | (refine wpList_load_mat rfl _ rfl w1.heap.size g rfl HXV.out ?_) | (refine wpList_store_mat rfl _ _ rfl w.heap.size (fun _ => none) g rfl rfl HRV.out ?_; intro w3 hp3))
    have hld := loadM hp3.heap
    have hB3 : Below w.heap.size w w3 := hp3.below (HBW.out.trans (HBV.out.mono HBW.out.size)) (Nat.le_refl _)
    have hpost : SqR w M (.returned (.agg (mC g))) w3 := by
      refine ⟨?_, hB3⟩
      rcases HCASE.out with ⟨h1, h2, h3, pv, hM⟩ | ⟨h1, h2, h3⟩
      · subst h2
        subst hNC
        refine .inl ⟨⟨h1, h3⟩, g, pv, rfl, ?_⟩
        exact (((hM.below HMV.out).put hp3 (by omega)).mono (by omega))
      · subst h3
        exact .inr ⟨fun h => by rw [h1] at h; exact absurd h.1 (by decide), rfl⟩
    refine bodyPost_ret (v := .agg (mC g)) ?_ rfl hpost
    simp [results, Try.results94, Act.put, asAddr, hld]
  · go_wp2_with (refine wpList_store_mat rfl _ _ rfl w.heap.size (fun _ => none) (fun _ => none) rfl rfl HRV.out ?_; intro w3 hp3)
    have hld := loadM hp3.heap
    have hB3 : Below w.heap.size w w3 := hp3.below (HBW.out.trans (HBV.out.mono HBW.out.size)) (Nat.le_refl _)
    have hpost : SqR w M (.returned (.agg (mC fun _ => none))) w3 := by
      refine ⟨.inr ⟨?_, rfl⟩, hB3⟩
      rintro ⟨h1, h2⟩
      rcases HCASE.out with ⟨_, h3, h4, _⟩ | ⟨h3, _⟩
      · exact hNC (by rw [h3, h4]; exact h2)
      · rw [h1] at h3; cases h3
    refine bodyPost_ret (v := .agg (mC fun _ => none)) ?_ rfl hpost
    simp [results, Try.results94, Act.put, asAddr, hld]

set_option maxRecDepth 100000 in
set_option maxHeartbeats 2000000 in
theorem trace1_any (g : Nat → Option Addr) (n m lo B k : Nat) (P : Nat → Nat → Pl) (pv : Nat → Nat → Value) (w : World) (hM : MatW lo w g n m P pv) (hB : w.heap[B]? = some (.cells (mC g) MA (0, 0))) (hk : k < n) (hkm : k < m) :
    Calls Try.prog 96 #[.int .i64 (k : Int), .pointer (some ⟨B, 0, none⟩)] w (AtF w (some (P k k))) := by
  have hn4 := hM.shp.n4
  have hk4 : (k : Int) < 4 := by omega
  obtain ⟨jb, hgj, _, hj2, hj3, hj4, hj5⟩ := hM.at_ k k hk hkm
  obtain ⟨hq0, _⟩ := cell_of16 hB (i := k) (k := k) (by omega) (by omega)
  rw [hgj] at hq0
  obtain ⟨av, gv, cv, hpv, _, _, _⟩ := hj5.shape
  obtain ⟨N, hN⟩ : ∃ N, (P k k).cs.length = N := ⟨_, rfl⟩
  rw [hN] at hpv
  rw [hpv] at hj4 hj5
  have HJ := Lib.hid hj5
  have hBl : B < w.heap.size := (Array.getElem?_eq_some_iff.1 hB).1
  have HBR := Lib.hid ((Below.refl w.heap.size w).alloc (Nat.le_refl _) (.cells #[.int .i64 (P k k).low, .slice av N cv] PO))
  clear hM hB hj5 hpv hN hgj
  go_enter Try.func96, Try.ntmps96
  go_wp2
  have hA : AtF w (some (P k k)) (.returned (.tuple #[plV (P k k).low (.slice av N cv), .bool true])) (w.alloc (.cells #[.int .i64 (P k k).low, .slice av N cv] PO)) :=
    ⟨.inr ⟨P k k, _, _, _, rfl, rfl, (HJ.out.below HBR.out).mono (Nat.zero_le _)⟩, HBR.out⟩
  refine bodyPost_ret (v := .tuple #[plV (P k k).low (.slice av N cv), .bool true]) ?_ rfl hA
  simp [results, Try.results96, go_sem, plV]

set_option maxRecDepth 100000 in
set_option maxHeartbeats 4000000 in
theorem iMatrixTrace_any (a : Option Addr) (c n : Nat) (M : Mx) (w : World) (hs : IsPSS w a n M) :
    Calls Try.prog 40 #[.slice a n c] w (AtZ w (traceM M)) := by
  have hmf : ∀ (fn : Fn) (first cap : Array Value) (w : World), (Instr.makeFunc fn first cap).run Try.prog w = .ok (.func fn first cap) w := fun _ _ _ _ => rfl
  obtain ⟨W, hW⟩ : ∃ W, w.alloc (.cells #[.int .i64 0, .slice none 0 0] PO) = W := ⟨_, rfl⟩
  have hsz : W.heap.size = w.heap.size + 1 := by rw [← hW]; simp
  have hbW : Below w.heap.size w W := by rw [← hW]; exact (Below.refl _ w).alloc (Nat.le_refl _) _
  have HC : Hid (∀ w1, Below W.heap.size W w1 → _) := Lib.hid fun w1 (hg : Below W.heap.size W w1) => resCells (w := w) rfl (by rw [hW, ← hsz]; exact hg)
  have HS := Lib.hid (hs.below hbW)
  have HBW := Lib.hid hbW
  have HW := Lib.hid hW
  clear hbW hs hW
  go_enter Try.func40, Try.ntmps40
  go_wp2_with fail
  rw [HW.out]
  refine (squareOf_any a c n M W HS.out).mono ?_
  rintro e w1 ⟨⟨⟨hy, hsq⟩, g, pv, rfl, hM⟩ | ⟨hn, rfl⟩, hb1⟩
  · have hs1 := hb1.size
    have hq := mat_no hM.shp (by have := (matB_iff.1 hy).1; omega)
    have hl4 := (matB_iff.1 hy).1
    have HA1 := Lib.hid ((Below.refl w1.heap.size w1).alloc (Nat.le_refl _) (.cells (mC fun _ => none) MA))
    have HB1 := Lib.hid hb1
    have HM1 := Lib.hid hM
    obtain ⟨N, hN⟩ : ∃ N, M.length = N := ⟨_, rfl⟩
    have HT := Lib.hid (traceM_yes hy hsq)
    have HP := Lib.hid fun k p (hk : k < N) (e : some (at2 M k k) = some p) => (show polyB p = true by rw [← Option.some.inj e]; exact matB_at hy (by omega) (by omega))
    rw [hN] at HM1 HT hl4
    clear hb1 hM hy hsq hN
    go_wp2_with (first | (refine wpList_store_mat rfl _ _ rfl w1.heap.size (fun _ => none) g rfl rfl (World.alloc_heap_new w1 (.cells (mC fun _ => none) MA)) ?_; intro w2 hp2; have HP2 := Lib.hid hp2; clear hp2) | (refine wpList_load_mat rfl _ rfl w1.heap.size g rfl HP2.out.heap ?_))
    have HB2 := Lib.hid (HP2.out.below (HB1.out.trans (HA1.out.mono hs1)) hs1)
    have HM2 := Lib.hid (HM1.out.below (HP2.out.below HA1.out (Nat.le_refl _)))
    refine (rows_any g N N HM2.out.shp w2).mono ?_
    rintro e w3 ⟨rfl, hb3⟩
    have HX3 := Lib.hid ((hb3.block w1.heap.size (Array.getElem?_eq_some_iff.1 HP2.out.heap).1).trans HP2.out.heap)
    have HB3 := Lib.hid (HB2.out.trans (hb3.mono HB2.out.size))
    have HM3 := Lib.hid (HM2.out.below hb3)
    have hl3 := (Array.getElem?_eq_some_iff.1 HX3.out).1
    clear hb3
    have HSUM := Lib.hid (sumTold_any 96 #[] #[.pointer (some ⟨w1.heap.size, 0, none⟩)] N (fun i => some (at2 M i i)) w3 hl4.2 (fun _ _ => by go_simp) (fun k p hk e => HP.out k p hk e)
      (fun k V hk hV => trace1_any g N N _ w1.heap.size k (at2 M) pv V (HM3.out.below hV) ((hV.block w1.heap.size hl3).trans HX3.out) hk hk))
    go_wp2_with fail
    refine HSUM.out.mono ?_
    rintro e w4 ⟨⟨a4, n4, c4, rfl, hr4⟩, hb4⟩
    have HB4 := Lib.hid (HB3.out.trans (hb4.mono HB3.out.size))
    obtain ⟨e0, e1, f0, f1⟩ := HC.out w4 HB4.out
    have HR4 := Lib.hid hr4
    have hs3 := HB3.out.size
    clear hr4 hb4
    go_wp2
    have hA : AtZ w (traceM M) (.returned (.tuple #[plV ((sumO (fun i => some (at2 M i i)) N).getD zeroP).low (.slice a4 n4 c4), .bool (sumO (fun i => some (at2 M i i)) N).isSome])) ((w4.setCell ⟨w.heap.size, 0, none⟩ (.int .i64 ((sumO (fun i => some (at2 M i i)) N).getD zeroP).low)).setCell ⟨w.heap.size, 1, none⟩ (.slice a4 n4 c4)) := by
      rw [HT.out]
      exact ⟨⟨_, _, _, rfl, resRow _ _ HR4.out (by omega)⟩, resBelow _ _ (HBW.out.trans (HB4.out.mono HBW.out.size))⟩
    refine bodyPost_ret (v := .tuple #[plV ((sumO (fun i => some (at2 M i i)) N).getD zeroP).low (.slice a4 n4 c4), .bool (sumO (fun i => some (at2 M i i)) N).isSome]) ?_ rfl hA
    simp [results, Try.results40, go_sem, e0, e1, plV]
  · have hs1 := hb1.size
    have hq := mat_yes
    have HA1 := Lib.hid ((Below.refl w1.heap.size w1).alloc (Nat.le_refl _) (.cells (mC fun _ => none) MA))
    have HB1 := Lib.hid hb1
    have HT := Lib.hid (traceM_no hn)
    clear hb1 hn
    go_wp2_with (first | (refine wpList_store_mat rfl _ _ rfl w1.heap.size (fun _ => none) (fun _ => none) rfl rfl (World.alloc_heap_new w1 (.cells (mC fun _ => none) MA)) ?_; intro w2 hp2; have HP2 := Lib.hid hp2; have HB2 := Lib.hid (hp2.below (HB1.out.trans (HA1.out.mono hs1)) hs1); obtain ⟨e0, e1, f0, f1⟩ := HC.out w2 HB2.out; clear hp2) | (refine wpList_load_mat rfl _ rfl w1.heap.size (fun _ => none) rfl HP2.out.heap ?_))
    refine bodyPost_ret (v := .tuple #[plV 0 (.slice none 0 0), .bool false]) ?_ rfl (AtZ.no HT.out (resBelow (.int .i64 0) (.slice none 0 0) (HBW.out.trans (HB2.out.mono HBW.out.size))))
    simp [results, Try.results40, go_sem, e0, e1, plV]

end Go.Proofs.Ytakfobihakbefaa

/- The model's MatrixTrace. -/

namespace Go.Proofs.Ytakfobihakbefaa
open Go.RowKit Go.Shelf

theorem sPolyAdd_o {W : World} {a1 a2 : Option Addr} {n1 n2 c1 c2 : Nat} {p q : Pl} {b : Bool} (h1 : PIn W a1 n1 c1 p.cs) (h2 : Ints W a2 n2 q.cs) (hb : addPB p q = b) :
    Calls Try.prog 110 #[plV p.low (.slice a1 n1 c1), plV q.low (.slice a2 n2 c2)] W fun e w' => (∃ a c, e = .returned (.tuple #[plV (addP p q).low (.slice a (addP p q).cs.length c), .bool b]) ∧ IntRow W.heap.size w' (.slice a (addP p q).cs.length c) (addP p q).cs) ∧ Below W.heap.size W w' := by
  refine (sPolyAdd_any p.low q.low p.cs q.cs a1 a2 c1 c2 n1 n2 _ _ b W h1.is h2 h1.le rfl rfl hb).mono ?_
  rintro e w' ⟨⟨v, rfl, hr⟩, hB⟩
  rw [show doneP b (sumP ⟨p.low, p.cs⟩ 1 ⟨q.low, q.cs⟩) = addP p q by rw [← hb]; rfl] at hr ⊢
  obtain ⟨a, _, c, rfl, _⟩ := hr.shape
  exact ⟨⟨a, c, rfl, hr⟩, hB⟩
/-- The model's sum so far lies in the block j. -/
structure TrS (w : World) (j : Nat) (s : Pl) (a : Option Addr) (m c : Nat) (wr : World) : Prop where
  below : Below w.heap.size w wr
  res : wr.heap[w.heap.size]? = some (.cells #[.int .i64 0, .slice none 0 0] PO (0, 0))
  box : wr.heap[j]? = some (.cells #[.int .i64 s.low, .slice a m c] PO (0, 0))
  hj : w.heap.size < j
  row : IntRow (w.heap.size + 1) wr (.slice a m c) s.cs
theorem TrS.lt {w wr : World} {j : Nat} {s : Pl} {a : Option Addr} {m c : Nat} (h : TrS w j s a m c wr) : j < wr.heap.size := (Array.getElem?_eq_some_iff.1 h.box).1
theorem TrS.bel {w wr w2 : World} {j : Nat} {s : Pl} {a : Option Addr} {m c : Nat} (h : TrS w j s a m c wr) (hb : Below wr.heap.size wr w2) : TrS w j s a m c w2 :=
  ⟨h.below.trans (hb.mono h.below.size), (hb.block _ (Nat.lt_trans h.hj h.lt)).trans h.res, (hb.block _ h.lt).trans h.box, h.hj, h.row.below hb⟩
theorem TrS.cells {w wr : World} {j : Nat} {s : Pl} {a : Option Addr} {m c : Nat} (h : TrS w j s a m c wr) :
    (wr.cell? ⟨j, 0, none⟩ = some (.int .i64 s.low) ∧ wr.cell? ⟨j, 1, none⟩ = some (.slice a m c) ∧ wr.frozen? ⟨j, 0, none⟩ = false ∧ wr.frozen? ⟨j, 1, none⟩ = false) ∧
    wr.cell? ⟨w.heap.size, 0, none⟩ = some (.int .i64 0) ∧ wr.cell? ⟨w.heap.size, 1, none⟩ = some (.slice none 0 0) ∧ wr.frozen? ⟨w.heap.size, 0, none⟩ = false ∧ wr.frozen? ⟨w.heap.size, 1, none⟩ = false := by
  have h0 := h.res
  have h1 := h.box
  refine ⟨⟨?_, ?_, ?_, ?_⟩, ?_, ?_, ?_, ?_⟩ <;> simp [World.cell?, World.frozen?, h0, h1]
theorem TrS.next {w wr : World} {j : Nat} {s q : Pl} {a a2 : Option Addr} {m c m2 c2 lo : Nat} (h : TrS w j s a m c wr) (hr : IntRow lo wr (.slice a2 m2 c2) q.cs) (hlo : j < lo) :
    TrS w j q a2 m2 c2 ((wr.setCell ⟨j, 0, none⟩ (.int .i64 q.low)).setCell ⟨j, 1, none⟩ (.slice a2 m2 c2)) := by
  have hjw := h.hj
  have hoff : ∀ b, b ≠ j → ((wr.setCell ⟨j, 0, none⟩ (.int .i64 q.low)).setCell ⟨j, 1, none⟩ (.slice a2 m2 c2)).heap[b]? = wr.heap[b]? := fun b hb => by
    rw [heap_off _ _ _ (by show b ≠ j; exact hb), heap_off _ _ _ (by show b ≠ j; exact hb)]
  refine ⟨(h.below.setCell (p := ⟨j, 0, none⟩) (by show w.heap.size ≤ j; omega) _).setCell (p := ⟨j, 1, none⟩) (by show w.heap.size ≤ j; omega) _, (hoff _ (by omega)).trans h.res, ?_, hjw, ?_⟩
  · rw [heap_setCell_same _ j 1 _ _ _ (heap_setCell_same wr j 0 _ _ _ h.box)]
    simp
  · have h1 := own_ge hr
    exact rowSet (rowSet (hr.mono (by omega)) fun k e => by have := h1 k e; omega) fun k e => by have := h1 k e; omega

set_option maxRecDepth 100000 in
set_option maxHeartbeats 8000000 in
theorem sMatrixTrace_any (a : Option Addr) (c n : Nat) (M : Mx) (w : World) (hs : IsPSS w a n M) :
    Calls Try.prog 57 #[.slice a n c] w (AtZ w (traceM M)) := by
  have hmax := hs.max
  unfold maxLen at hmax
  have HL := Lib.hid hs.len
  obtain ⟨b, hb⟩ : ∃ b, matB M = b := ⟨_, rfl⟩
  obtain ⟨W, hW⟩ : ∃ W, w.alloc (.cells #[.int .i64 0, .slice none 0 0] PO) = W := ⟨_, rfl⟩
  have hsz : W.heap.size = w.heap.size + 1 := by rw [← hW]; simp
  have hbW : Below w.heap.size w W := by rw [← hW]; exact (Below.refl _ w).alloc (Nat.le_refl _) _
  have hrb : W.heap[w.heap.size]? = some (.cells #[.int .i64 0, .slice none 0 0] PO (0, 0)) := by rw [← hW]; exact World.alloc_heap_new w _
  have HC : Hid (∀ w1, Below W.heap.size W w1 → _) := Lib.hid fun w1 (hg : Below W.heap.size W w1) => resCells (w := w) rfl (by rw [hW, ← hsz]; exact hg)
  have HIN := Lib.hid (sMatrixIn_any a c n M b W (hs.below hbW) hb)
  have HBW := Lib.hid hbW
  have HRB := Lib.hid hrb
  have HW := Lib.hid hW
  have HEnd : Hid (∀ (w1 w2 : World) (az : Option Addr) (nz cz : Nat), Below W.heap.size W w1 → IntRow w1.heap.size w2 (.slice az nz cz) [] → Below w1.heap.size w1 w2 → traceM M = none → AtZ w (traceM M) (.returned (.tuple #[plV 0 (.slice az nz cz), .bool false])) ((w2.setCell ⟨w.heap.size, 0, none⟩ (.int .i64 0)).setCell ⟨w.heap.size, 1, none⟩ (.slice az nz cz))) :=
    Lib.hid fun w1 w2 az nz cz h1 hr h2 e => by
      have := h1.size
      rw [e]
      exact ⟨⟨_, _, _, rfl, resRow _ _ hr (by omega)⟩, resBelow _ _ ((hbW.trans (h1.mono hbW.size)).trans (h2.mono (by omega)))⟩
  cases b with
  | false =>
    have HN : Hid (traceM M = none) := Lib.hid (traceM_no fun h => by rw [hb] at h; exact absurd h.1 (by decide))
    clear hs hb hW hbW hrb
    go_enter Try.func57, Try.ntmps57
    go_wp2_with fail
    rw [HW.out]
    refine HIN.out.mono ?_
    rintro e w1 ⟨rfl, hb1⟩
    have HB1 := Lib.hid hb1
    clear hb1
    go_wp2_with fail
    refine (l6pNone_any w1).mono ?_
    rintro e w2 ⟨⟨v, rfl, hr⟩, hb2⟩
    obtain ⟨az, nz, cz, rfl, _⟩ := hr.shape
    have HA := Lib.hid (HEnd.out w1 w2 _ _ _ HB1.out hr hb2 HN.out)
    obtain ⟨e0, e1, f0, f1⟩ := HC.out w2 (HB1.out.trans (hb2.mono HB1.out.size))
    clear hr hb2
    go_wp2
    refine bodyPost_ret (v := .tuple #[plV 0 (.slice az _ cz), .bool false]) ?_ rfl HA.out
    simp [results, Try.results57, go_sem, e0, e1, plV]
  | true =>
    obtain ⟨h4, hc4, hrows⟩ := matB_iff.1 hb
    obtain ⟨x, rfl, hxb, hx⟩ := hs.at_ (by have := hs.len; omega)
    obtain ⟨a0, c0, hc0, hI0⟩ := hx 0 (by omega)
    rw [show x.add 0 = x by simp [Addr.add], (hrows _ (List.getElem_mem _)).1] at hc0
    obtain ⟨m, hm⟩ : ∃ m, colsM M = m := ⟨_, rfl⟩
    rw [hm] at hc0 hc4
    have HX0 := Lib.hid ((hbW.cell (p := x) hxb).trans hc0)
    have HXB := Lib.hid (Nat.lt_of_lt_of_le hxb hbW.size)
    have HM := Lib.hid hm
    have HB0 := Lib.hid hb
    have HS := Lib.hid hs
    have hn4 : 1 ≤ n ∧ n ≤ 4 := by have := hs.len; omega
    have h0i : (0 : Int) < (n : Int) := by omega
    have hlen : M.length = n := hs.len
    clear hs hx hc0 hI0 hxb hm hb hrows h4 hbW hrb hW
    go_enter Try.func57, Try.ntmps57
    go_wp2_with fail
    rw [HW.out]
    refine HIN.out.mono ?_
    rintro e w1 ⟨rfl, hb1⟩
    have q0 := (hb1.cell (p := x) HXB.out).trans HX0.out
    have HB1 := Lib.hid hb1
    clear hb1
    by_cases hnm : n = m
    case neg =>
      have e2 : ¬ (n : Int) = (m : Int) := by omega
      have hd1 : ((n : Int) == (m : Int)) = false := by simp [e2]
      have hd2 : ((n : Int) != (m : Int)) = true := by simp [e2]
      have hd3 : decide ((n : Int) = (m : Int)) = false := by simp [e2]
      have HN : Hid (traceM M = none) := Lib.hid (traceM_no fun h => by have := HM.out; omega)
      go_wp2_with fail
      refine (l6pNone_any w1).mono ?_
      rintro e w2 ⟨⟨v, rfl, hr⟩, hb2⟩
      obtain ⟨az, nz, cz, rfl, _⟩ := hr.shape
      have HA := Lib.hid (HEnd.out w1 w2 _ _ _ HB1.out hr hb2 HN.out)
      obtain ⟨e0, e1, f0, f1⟩ := HC.out w2 (HB1.out.trans (hb2.mono HB1.out.size))
      clear hr hb2
      go_wp2
      refine bodyPost_ret (v := .tuple #[plV 0 (.slice az _ cz), .bool false]) ?_ rfl HA.out
      simp [results, Try.results57, go_sem, e0, e1, plV]
    subst hnm
    have HT := Lib.hid (traceM_yes HB0.out (by rw [HM.out]; exact hlen))
    rw [hlen] at HT
    go_wp2_with fail
    refine (l7Zero_any w1).mono ?_
    rintro e w2 ⟨⟨v, rfl, hr⟩, hb2⟩
    obtain ⟨az, nz, cz, rfl, _⟩ := hr.shape
    have HB2 := Lib.hid (HB1.out.trans (hb2.mono HB1.out.size))
    have hs1 := HB1.out.size
    have hs2 := hb2.size
    have hbA : Below w2.heap.size w2 (w2.alloc (.cells #[.int .i64 0, .slice az ([] : List Int).length cz] PO)) := (Below.refl _ _).alloc (Nat.le_refl _) _
    have HT0 : Hid (TrS w w2.heap.size zeroP az ([] : List Int).length cz (w2.alloc (.cells #[.int .i64 0, .slice az ([] : List Int).length cz] PO))) := Lib.hid
      ⟨(HBW.out.trans (HB2.out.mono HBW.out.size)).trans (hbA.mono (by omega)), by rw [hbA.block _ (by omega), HB2.out.block _ (by omega)]; exact HRB.out, World.alloc_heap_new w2 _, by omega, (hr.mono (by omega)).below hbA⟩
    clear hr hb2 hbA
    go_wp2
    go_loopw [5] (fun q wr => ∃ (k : Nat) (s : Pl) (sa : Option Addr) (sm sc : Nat), k ≤ n ∧ q = .int .i64 k ∧ Hid (sumO (fun i => some (at2 M i i)) k = some s) ∧ Hid (TrS w w2.heap.size s sa sm sc wr)) (fun q _ => n - (intOf q).toNat)
    case atStart => exact ⟨0, zeroP, _, _, _, Nat.zero_le _, rfl, Lib.hid rfl, HT0⟩
    case round =>
      obtain ⟨k, s, sa, sm, sc, hk, rfl, HSM, HA⟩ := hrel
      obtain ⟨U, hU⟩ : ∃ U, U = wr := ⟨_, rfl⟩
      subst hU
      by_cases hlt : k < n
      · have hkr : k < M.length := by omega
        obtain ⟨x2, hx2, hxb, hx⟩ := HS.out.at_ (by omega)
        cases hx2
        obtain ⟨ai, ci, hc, hI⟩ := hx k hkr
        have hrl : M[k].length = n := by rw [matB_row HB0.out hkr]; exact HM.out
        obtain ⟨y, rfl, hyb, hy⟩ := hI.at_ (by omega)
        obtain ⟨ak, ck, hd0, hd1, hJ, hle⟩ := hy k (by omega)
        have hat : at2 M k k = M[k][k] := at2_eq hkr (by omega)
        obtain ⟨p, hp⟩ : ∃ p, at2 M k k = p := ⟨_, rfl⟩
        rw [← hat, hp] at hd0 hd1 hJ hle
        rw [hrl] at hc
        obtain ⟨mp, hmp⟩ : ∃ mp, p.cs.length = mp := ⟨_, rfl⟩
        rw [hmp] at hd1 hJ hle
        rw [addr_next2] at hd1
        have HK : Hid (∀ V, Below U.heap.size U V → (V.cell? ⟨w2.heap.size, 0, none⟩ = some (.int .i64 s.low) ∧ V.cell? ⟨w2.heap.size, 1, none⟩ = some (.slice sa sm sc) ∧ V.cell? (x.add k) = some (.slice (some y) n ci) ∧ V.cell? (y.add (k * 2)) = some (.int .i64 p.low) ∧ V.cell? ⟨(y.add (k * 2)).block, (y.add (k * 2)).off + 1, none⟩ = some (.slice ak mp ck)) ∧
            (V.heap.size ≠ w2.heap.size ∧ w2.heap.size ≠ V.heap.size) ∧ (V.heap.size ≠ (x.add k).block ∧ (x.add k).block ≠ V.heap.size) ∧ (V.heap.size ≠ (y.add (k * 2)).block ∧ (y.add (k * 2)).block ≠ V.heap.size) ∧ (V.heap.size ≠ x.block ∧ x.block ≠ V.heap.size) ∧ V.heap.size ≠ y.block ∧ y.block ≠ V.heap.size) := Lib.hid fun V hV => by
          have hT := HA.out.bel hV
          have hwV := hT.below
          have hlt2 := hT.lt
          have hwV2 := hwV.size
          obtain ⟨⟨t0, t1, _, _⟩, _⟩ := hT.cells
          refine ⟨⟨t0, t1, (hwV.cell (p := x.add k) (by rw [addr_add_block]; exact hxb)).trans hc, (hwV.cell (p := y.add (k * 2)) (by rw [addr_add_block]; exact hyb)).trans hd0, (hwV.cell (p := ⟨(y.add (k * 2)).block, (y.add (k * 2)).off + 1, none⟩) (by show (y.add (k * 2)).block < _; rw [addr_add_block]; exact hyb)).trans hd1⟩, ?_⟩
          rw [addr_add_block, addr_add_block]
          omega
        obtain ⟨bb, hbb⟩ : ∃ bb, addPB s p = bb := ⟨_, rfl⟩
        have HADD : Hid (∀ V, Below U.heap.size U V → _) := Lib.hid fun V (hV : Below U.heap.size U V) => sPolyAdd_o (c2 := ck) ((HA.out.bel hV).row.pin (sumO_B HSM.out)).1 (hJ.below (HA.out.below.trans (hV.mono HA.out.below.size))) hbb
        obtain ⟨R, hR⟩ : ∃ R, addP s p = R := ⟨_, rfl⟩
        obtain ⟨L, hLR⟩ : ∃ L, R.cs.length = L := ⟨_, rfl⟩
        rw [hR, hLR] at HADD
        have HBB := Lib.hid hbb
        have HP := Lib.hid hp
        have HR := Lib.hid hR
        have hkI : (k : Int) < (n : Int) := by omega
        have HBk : Hid (Below U.heap.size U U) := Lib.hid (Below.refl _ _)
        obtain ⟨⟨k0, k1, k2, k3, k4⟩, ⟨m1, m2⟩, ⟨m3, m4⟩, ⟨m5, m6⟩, ⟨m7, m8⟩, m9, m10⟩ := HK.out U (Below.refl _ _)
        clear hx hc hI hy hd0 hd1 hJ hle hat hp hmp hbb hR hLR hxb hyb hrl
        go_upto_region 7 with fail
        go_cut [6, 7] (fun s1 s2 wx => AnsMk U wx s1 s2 R.low R.cs L bb)
        case first =>
          go_region_held3 (fun w' : World => w'.cell? ⟨w2.heap.size, 0, none⟩ = some (.int .i64 s.low) ∧ w'.cell? ⟨w2.heap.size, 1, none⟩ = some (.slice sa sm sc) ∧ w'.cell? (x.add k) = some (.slice (some y) n ci) ∧ w'.cell? (y.add (k * 2)) = some (.int .i64 p.low) ∧ w'.cell? ⟨(y.add (k * 2)).block, (y.add (k * 2)).off + 1, none⟩ = some (.slice ak mp ck)) (first | go_keep | exact ⟨k0, k1, k2, k3, k4⟩)
            (first
              | (go_at_call 110
                 with_reducible refine (HADD.out _ (by first | exact HBk.out.drew | exact (HBk.out.alloc HBk.out.size _).drew | exact HBk.out | exact HBk.out.alloc HBk.out.size _)).mono ?_
                 rintro e V ⟨⟨aq, cq, rfl, hoq⟩, hbv⟩
                 have HOG := Lib.hid (own_ge hoq)
                 have HRQ := Lib.hid hoq
                 have HBS := Lib.hid HBk.out.size
                 clear hoq
                 have hbn : Below U.heap.size U V := by
                   first
                   | exact HBk.out.trans (hbv.mono HBk.out.size)
                   | exact HBk.out.drew.trans (hbv.mono HBk.out.size)
                   | exact below_alloc HBk.out HBk.out.size hbv
                   | exact below_drewAlloc HBk.out HBk.out.size hbv
                 first
                 | (have HZ : Hid (BoxZ V U.heap.size) := Lib.hid (BoxZ.of (w := U.drew) hbv); have HZL := Lib.hid (Nat.le_refl U.heap.size); obtain ⟨_, y0, y1, y2, y3⟩ := HZ.out)
                 | (have HZ : Hid (BoxZ V U.heap.size) := Lib.hid (BoxZ.ofd (w := U) hbv); have HZL := Lib.hid (Nat.le_refl U.heap.size); obtain ⟨_, y0, y1, y2, y3⟩ := HZ.out)
                 | skip
                 obtain ⟨⟨k0, k1, k2, k3, k4⟩, ⟨o1, o2⟩, ⟨o3, o4⟩, ⟨o5, o6⟩, ⟨o7, o8⟩, o9, o10⟩ := HK.out V hbn
                 clear HBk
                 have HBk := Lib.hid hbn
                 clear hbv hbn))
          all_goals (go_wp2_with fail; go_meet)
          all_goals first
            | exact ansA HBk.out HRQ.out (by have := HBS.out; first | exact this | (simp; omega))
            | exact ansC HBk.out HRQ.out (by have := HBS.out; first | exact this | (simp; done) | (simp; omega)) HZ.out HZL.out (fun k e => by have h1 := HOG.out k e; first | omega | (simp at h1; omega) | (simp [World.drew] at h1; omega))
        case rest =>
        obtain ⟨j6, a6, c6, hs1, hs2, hbox, hj6, how, hnew, hb3⟩ := hcut
        subst hs1
        subst hs2
        clear HBk k0 k1 k2 k3 k4 m1 m2 m3 m4 m5 m6 m7 m8 m9 m10
        obtain ⟨W3, hwq⟩ : ∃ X, wc = X := ⟨_, rfl⟩
        rw [hwq] at hbox how hb3 ⊢
        clear hwq
        have HA3 := Lib.hid (HA.out.bel hb3)
        have HW3 := Lib.hid how
        have hlt3 := HA.out.lt
        obtain ⟨hj6w, g0, g1⟩ := hbox
        obtain ⟨⟨d0, d1, e0, e1⟩, r0, r1, s0, s1⟩ := HA3.out.cells
        clear how hnew
        cases bb with
        | false =>
          have HN : Hid (traceM M = none) := Lib.hid (by
            rw [HT.out]
            exact sumO_stop (k := k + 1) (by rw [sumO_next HSM.out (by rw [HP.out]) HBB.out]; rfl) n (by omega))
          clear d0 d1 e0 e1 r0 r1 s0 s1 g0 g1
          go_wp2_with fail
          refine (l6pNone_any W3).mono ?_
          rintro e w5 ⟨⟨v, rfl, hr⟩, hb5⟩
          obtain ⟨az, nz, cz, rfl, _⟩ := hr.shape
          have HA5 := Lib.hid (HA3.out.bel hb5)
          have HR5 := Lib.hid hr
          have hs3 := HA3.out.below.size
          obtain ⟨_, r0, r1, s0, s1⟩ := HA5.out.cells
          clear hr hb5
          go_wp2
          have hA : AtZ w (traceM M) (.returned (.tuple #[plV 0 (.slice az ([] : List Int).length cz), .bool false])) ((w5.setCell ⟨w.heap.size, 0, none⟩ (.int .i64 0)).setCell ⟨w.heap.size, 1, none⟩ (.slice az ([] : List Int).length cz)) := by
            rw [HN.out]
            exact ⟨⟨_, _, _, rfl, resRow _ _ HR5.out (by have := HA3.out.lt; omega)⟩, resBelow _ _ HA5.out.below⟩
          refine bodyPost_ret (v := .tuple #[plV 0 (.slice az ([] : List Int).length cz), .bool false]) ?_ rfl hA
          simp [results, Try.results57, go_sem, r0, r1, plV]
        | true =>
          have HS3 : Hid (sumO (fun i => some (at2 M i i)) (k + 1) = some R) := Lib.hid (by rw [sumO_next HSM.out (by rw [HP.out]) HBB.out, if_pos rfl, HR.out])
          have HN3 := Lib.hid (HA3.out.next HW3.out hlt3)
          clear r0 r1 s0 s1
          go_wp2
          go_roundw
          case rel => exact ⟨k + 1, R, a6, L, c6, by omega, by go_num, HS3, HN3⟩
          case measure => simp [intOf]; omega
      · obtain rfl : k = n := by omega
        obtain ⟨⟨d0, d1, e0, e1⟩, r0, r1, s0, s1⟩ := HA.out.cells
        go_wp2
        have hA : AtZ w (traceM M) (.returned (.tuple #[plV s.low (.slice sa sm sc), .bool true])) ((U.setCell ⟨w.heap.size, 0, none⟩ (.int .i64 s.low)).setCell ⟨w.heap.size, 1, none⟩ (.slice sa sm sc)) :=
          AtZ.yes (by rw [HT.out]; exact HSM.out) (resRow _ _ HA.out.row (by omega)) (resBelow _ _ HA.out.below)
        refine bodyPost_ret (v := .tuple #[plV s.low (.slice sa sm sc), .bool true]) ?_ rfl hA
        simp [results, Try.results57, go_sem, r0, r1, plV]

end Go.Proofs.Ytakfobihakbefaa

/- Both contracts of MatrixTrace for its exact law; boxes elsewhere than what was touched. -/

namespace Go.Proofs.Ytakfobihakbefaa
open Go.RowKit

theorem BoxAt.touched {S : Nat → Prop} {w w' : World} {j : Nat} {x y : Value} (h : BoxAt w j x y) (ht : Touched S w w') (hn : ¬ S j) : BoxAt w' j x y := by
  have e := ht.block j h.1 hn
  refine ⟨Nat.lt_of_lt_of_le h.1 ht.size, ?_, ?_⟩
  · rw [← h.2.1]; simp [World.cell?, e]
  · rw [← h.2.2]; simp [World.cell?, e]
theorem fit_of_B {o : Option Pl} {p : Pl} (h : ∀ q, o = some q → polyB q = true) (hp : o.getD zeroP = p) : p.cs.length ≤ 200 := by
  subst hp
  cases o with
  | none => show (0 : Nat) ≤ 200; omega
  | some q => exact (polyB_trim (h q rfl)).2.1
theorem trace_fit {M : Mx} {p : Pl} (hp : (traceM M).getD zeroP = p) : p.cs.length ≤ 200 := by
  refine fit_of_B (fun q e => ?_) hp
  by_cases h : matB M = true ∧ M.length = colsM M
  · rw [traceM_yes h.1 h.2] at e
    exact sumO_B e
  · rw [traceM_no h] at e
    cases e
theorem AtZ.law {W : World} {o : Option Pl} {b : Bool} {pl : Int} {pc : List Int} (hb : o.isSome = b) (hp : o.getD zeroP = ⟨pl, pc⟩) {e : Ending} {w' : World} (h : AtZ W o e w') :
    (∃ v, e = .returned (.tuple #[plV pl v, .bool b]) ∧ IntRow W.heap.size w' v pc) ∧ Below W.heap.size W w' := by
  obtain ⟨⟨a, n, c, rfl, hr⟩, hB⟩ := h
  rw [hp] at hr ⊢
  rw [hb]
  exact ⟨⟨_, rfl, hr⟩, hB⟩
theorem sMatrixTrace_law {W : World} {a : Option Addr} {n c : Nat} {M : Mx} {b : Bool} {pl : Int} {pc : List Int} (hI : IsPSS W a n M) (hb : (traceM M).isSome = b) (hp : (traceM M).getD zeroP = ⟨pl, pc⟩) :
    Calls Try.prog 57 #[.slice a n c] W fun e w' => (∃ v, e = .returned (.tuple #[plV pl v, .bool b]) ∧ IntRow W.heap.size w' v pc) ∧ Below W.heap.size W w' :=
  (sMatrixTrace_any a c n M W hI).mono fun _ _ h => h.law hb hp
theorem iMatrixTrace_law {W : World} {a : Option Addr} {n c : Nat} {M : Mx} {b : Bool} {pl : Int} {pc : List Int} (hI : IsPSS W a n M) (hb : (traceM M).isSome = b) (hp : (traceM M).getD zeroP = ⟨pl, pc⟩) :
    Calls Try.prog 40 #[.slice a n c] W fun e w' => (∃ v, e = .returned (.tuple #[plV pl v, .bool b]) ∧ IntRow W.heap.size w' v pc) ∧ Below W.heap.size W w' :=
  (iMatrixTrace_any a c n M W hI).mono fun _ _ h => h.law hb hp

end Go.Proofs.Ytakfobihakbefaa

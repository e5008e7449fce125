/- What the laws' proofs stand on, part 6 of 6. -/
import Derived.Deep.RegionHeld3
import Derived.OrdersHeld
import Derived.StillTail
import Derived.Deep.RegionHeld
import Derived.Test.YtbbkpaledlbcmaaBa
import Derived.Test.YtbbkpaledlbcmaaBb
import Derived.Test.YtbbkpaledlbcmaaBc
import Derived.Test.YtbbkpaledlbcmaaBd
import Derived.Test.YtbbkpaledlbcmaaBe

/- The program's texts of relators and told. -/

namespace Go.Proofs.Ytbbkpaledlbcmaa
open Go.RowKit Go.Shelf

/-- Values that are words. -/
structure WsAt (w : World) (g : Nat) (vs : List Value) (ls : List (List UInt8)) : Prop where
  len : vs.length = ls.length
  lt : g < w.heap.size
  cell : ∀ j (h : j < vs.length), w.cell? ⟨g, j, none⟩ = some vs[j]
  word : ∀ j (h : j < vs.length) (h2 : j < ls.length), IsWord w.heap.size w vs[j] ls[j]
theorem WsAt.below {w w' : World} {g : Nat} {vs : List Value} {ls : List (List UInt8)} (h : WsAt w g vs ls) (hb : Below w.heap.size w w') : WsAt w' g vs ls :=
  ⟨h.len, Nat.lt_of_lt_of_le h.lt hb.size, fun j hj => (hb.cell (p := ⟨g, j, none⟩) h.lt).trans (h.cell j hj), fun j hj h2 => ((h.word j hj h2).below hb).mono hb.size⟩
set_option maxRecDepth 100000 in
set_option maxHeartbeats 1000000 in
theorem text_long (g off cap n : Nat) (l : List UInt8) (w : World) (hl : l.length = n) (hn : n ≤ 100000) (hlet : Letters g off l w) :
    Calls Try.prog 206 #[.slice (some ⟨g, off, none⟩) n cap] w fun e w' => e = .returned (.string (bstr l)) ∧ Below w.heap.size w w' := by
  obtain ⟨hgs, hcells⟩ := hlet
  have HCe := Lib.hid hcells
  clear hcells
  obtain ⟨i0, hi, hz0, hz1, hz2⟩ := info_parts infoU8
  go_enter Try.func206, Try.ntmps206
  go_wp2_with (at_make; refine wpList_make_full _ rfl _ _ 22 rfl w.heap.size 5 i0 (.int .u8 0) 1 Try.underlying22 hi hz0 hz1 .i64 .i64 _ _ n rfl rfl rfl rfl (by rw [hz2]; omega) (by unfold maxLen; omega) (Nat.le_refl _) ?_; intro w1 hrow hgrow)
  rw [show (madeCells (Value.cells (.int .u8 0)) (n * 1)).toList = bytesV (l.take 0 ++ List.replicate (n - 0) 0) by
    rw [show Value.cells (.int .u8 0) = #[.int .u8 0] from rfl, toList_madeCells_one]; simp [bytesV]] at hrow
  go_loopw [11] (fun i wr => ∃ k : Nat, k ≤ n ∧ i = .int .i64 k ∧ wr.ownsRow w.heap.size 5 1 (.slice (some ⟨w.heap.size, 0, none⟩) n n) n (bytesV (l.take k ++ List.replicate (n - k) 0)) ∧ Below w.heap.size w wr)
    (fun i _ => n - (intOf i).toNat)
  case atStart => exact ⟨0, Nat.zero_le _, rfl, hrow, (Below.refl _ _).grown hgrow (Nat.le_refl _) (fun k e => by cases e)⟩
  case round =>
    obtain ⟨k, hk, rfl, hr, hB⟩ := hrel
    by_cases hlt : k < n
    · have hsrc : wr.cell? ⟨g, off + k, none⟩ = some (.int .u8 ((l[k]'(by omega)).toNat : Int)) := (hB.cell (p := ⟨g, off + k, none⟩) hgs).trans (HCe.out k (by omega))
      have hfil := fill_set l n k hl hlt
      have hlen : (l.take k ++ List.replicate (n - k) (0 : UInt8)).length = n := by simp; omega
      have hdst : wr.cell? ⟨w.heap.size, k, none⟩ = some (.int .u8 0) := by
        rw [hr.cellAt k (by omega)]
        simp only [bytesV, List.getElem?_map]
        rw [List.getElem?_append_right (by simp; omega), List.getElem?_replicate]
        simp
        omega
      have hfr := hr.frozenAt k
      have HR := Lib.hid hr
      have HF := Lib.hid hfil
      clear hr hfil hlen
      go_wp2
      go_roundw
      case rel =>
        have hst := HR.out.stored k (.int .u8 ((l[k]'(by omega)).toNat : Int))
        refine ⟨k + 1, by omega, by go_num, ?_, hB.setCell (p := ⟨w.heap.size, k, none⟩) (Nat.le_refl _) _⟩
        rw [← HF.out, ← bytesV_set]
        exact hst.1
      case measure => simp [intOf]; omega
    · obtain rfl : k = n := by omega
      have hconv : (convert 22 9 (.slice (some ⟨w.heap.size, 0, none⟩) k k)).run Try.prog wr = .ok (.string (bstr l)) wr := by
        have := run_convert_bytes_back (P := Try.prog) wr 22 9 5 ⟨w.heap.size, 0, none⟩ k l Try.underlying22 Try.underlying5 Try.underlying9 (fun j hj => hr.cells rfl j _ (by
          have : l.take k = l := List.take_of_length_le (by omega)
          rw [this]; simp [bytesV, hj]))
        rw [hl] at this
        exact this
      clear hr
      go_wp2
      go_ret
      exact ⟨rfl, hB⟩
theorem text_word {sv : Value} {l : List UInt8} {w : World} (hw : IsWord w.heap.size w sv l) :
    Calls Try.prog 206 #[sv] w fun e w' => e = .returned (.string (bstr l)) ∧ Below w.heap.size w w' := by
  obtain ⟨g, off, cap, rfl, hg, hl, hc⟩ := hw
  exact text_long g off cap _ l w rfl hl ⟨hg, hc⟩

set_option maxRecDepth 100000 in
set_option maxHeartbeats 2000000 in
theorem texts_any (g cap n : Nat) (vs : List Value) (ls : List (List UInt8)) (w : World) (hs : WsAt w g vs ls) (hn : ls.length = n) (hm : n ≤ 1048576) :
    Calls Try.prog 189 #[.slice (some ⟨g, 0, none⟩) n cap] w fun e w' =>
      e = .returned (.slice (some ⟨w.heap.size, 0, none⟩) n n) ∧ w'.ownsRow w.heap.size 9 1 (.slice (some ⟨w.heap.size, 0, none⟩) n n) n (strsV (ls.map bstr)) ∧ Below w.heap.size w w' := by
  obtain ⟨i0, hi, hz0, hz1, hz2⟩ := info_parts infoStr
  have HS := Lib.hid hs
  have HN := Lib.hid hn
  have HZL : Hid ((ls.map bstr).length = n) := Lib.hid (by rw [List.length_map]; exact hn)
  clear hs hn
  go_enter Try.func189, Try.ntmps189
  go_wp2_with (at_make; refine wpList_make_full _ rfl _ _ 59 rfl w.heap.size 9 i0 (.string ByteArray.empty) 1 Try.underlying59 hi hz0 hz1 .i64 .i64 _ _ n rfl rfl rfl rfl (by rw [hz2]; omega) (by unfold maxLen; omega) (Nat.le_refl _) ?_; intro w1 hrow hgrow)
  rw [show (madeCells (Value.cells (.string ByteArray.empty)) (n * 1)).toList = strsV ((ls.map bstr).take 0 ++ List.replicate (n - 0) ByteArray.empty) by
    rw [show Value.cells (.string ByteArray.empty) = #[.string ByteArray.empty] from rfl, toList_madeCells_one]; simp [strsV]] at hrow
  have hB1 : Below w.heap.size w w1 := (Below.refl _ _).grown hgrow (Nat.le_refl _) (fun k e => by cases e)
  go_loopw [11] (fun i wr => ∃ k : Nat, k ≤ n ∧ i = .int .i64 k ∧ Hid (wr.ownsRow w.heap.size 9 1 (.slice (some ⟨w.heap.size, 0, none⟩) n n) n (strsV ((ls.map bstr).take k ++ List.replicate (n - k) ByteArray.empty))) ∧ Below w.heap.size w wr)
    (fun i _ => n - (intOf i).toNat)
  case atStart => exact ⟨0, Nat.zero_le _, rfl, Lib.hid hrow, hB1⟩
  case round =>
    obtain ⟨k, hk, rfl, HR, hB⟩ := hrel
    by_cases hlt : k < n
    · have hkl : k < ls.length := by rw [HN.out]; exact hlt
      have hkv : k < vs.length := by rw [HS.out.len]; exact hkl
      have hsB := HS.out.below hB
      obtain ⟨v, hv⟩ : ∃ v, vs[k] = v := ⟨_, rfl⟩
      obtain ⟨l, hl⟩ : ∃ l, ls[k] = l := ⟨_, rfl⟩
      have hck := hsB.cell k hkv
      have hwk := hsB.word k hkv hkl
      rw [hv] at hck hwk
      rw [hl] at hwk
      have HTX := Lib.hid (text_word hwk)
      obtain ⟨s, hsb⟩ : ∃ s, bstr l = s := ⟨_, rfl⟩
      rw [hsb] at HTX
      have hfil := fillS_set (ls.map bstr) n k HZL.out hlt
      rw [List.getElem_map, hl, hsb] at hfil
      have HFIL := Lib.hid hfil
      have HBk := Lib.hid hB
      clear hsB hwk hv hl hsb hfil hB hkl hkv
      go_wp2_with fail
      refine HTX.out.mono ?_
      rintro e w2 ⟨rfl, hb2⟩
      have hr2 := ownsRow_past HR.out hb2
      have hdst : w2.cell? ⟨w.heap.size, k, none⟩ = some (.string ByteArray.empty) := by
        rw [hr2.cellAt k (by omega)]
        simp only [strsV, List.getElem?_map]
        have hln := HN.out
        rw [List.getElem?_append_right (by simp; omega), List.getElem?_replicate]
        simp
        omega
      have hfr := hr2.frozenAt k
      have HR2 := Lib.hid hr2
      have HB2 := Lib.hid (HBk.out.trans (hb2.mono HBk.out.size))
      clear hr2 hb2 hck
      go_wp2
      go_roundw
      case rel =>
        have hst := HR2.out.stored k (.string s)
        refine ⟨k + 1, by omega, by go_num, Lib.hid ?_, HB2.out.setCell (p := ⟨w.heap.size, k, none⟩) (Nat.le_refl _) _⟩
        rw [← HFIL.out]
        exact hst.1
      case measure => simp [intOf]; omega
    · obtain rfl : k = n := by omega
      have hr := HR.out
      rw [Nat.sub_self, List.replicate_zero, List.append_nil, List.take_of_length_le (by rw [HZL.out]; exact Nat.le_refl _)] at hr
      have HR := Lib.hid hr
      clear hr hrow
      go_wp2
      go_ret
      exact ⟨rfl, HR.out, hB⟩

/-- A group as an answer; what is none comes out as no generators and no relators. -/
structure Gp where
  low : Int
  cs : List ByteArray
def doneG (b : Bool) (p : Gp) : Gp := if b then p else ⟨0, []⟩
/-- What a function that tells a group comes to. -/
def ToldG (w : World) (b : Bool) (p : Gp) (e : Ending) (w' : World) : Prop :=
  (∃ v, e = .returned (.tuple #[plV (doneG b p).low v, .bool b]) ∧ GRow w.heap.size w' v (doneG b p).cs) ∧ Below w.heap.size w w'

set_option maxRecDepth 100000 in
set_option maxHeartbeats 4000000 in
theorem toldG_any (gens : Int) (g cap n : Nat) (vs : List Value) (ls : List (List UInt8)) (b : Bool) (w : World) (hs : WsAt w g vs ls) (hn : ls.length = n) (hm : n ≤ 1048576) (hl : ∀ l ∈ ls, l.length ≤ 100000) (hb : groupB gens (ls.map bstr) = b) :
    Calls Try.prog 151 #[plV gens (.slice (some ⟨g, 0, none⟩) n cap)] w (ToldG w b ⟨gens, ls.map bstr⟩) := by
  obtain ⟨W, hW⟩ : ∃ W, (w.alloc (.cells #[.int .i64 gens, .slice (some ⟨g, 0, none⟩) n cap] 137)).alloc (.cells #[.int .i64 0, .slice none 0 0] 64) = W := ⟨_, rfl⟩
  obtain ⟨hbW, hsz⟩ := boxes2Below hW
  have HC : Hid (∀ w1, Below W.heap.size W w1 → _) := Lib.hid fun w1 (hg : Below W.heap.size W w1) => boxes2 hW hg
  obtain ⟨⟨k0, k1⟩, d0, d1, f0, f1⟩ := boxes2 hW (Below.refl _ _)
  have HTX : Hid (∀ V, Below W.heap.size W V → _) := Lib.hid fun V (hV : Below W.heap.size W V) => (texts_any g cap n vs ls V ((hs.below hbW).below hV) hn hm).mono (R' := fun e w' => ∃ q, e = .returned (.slice (some ⟨q, 0, none⟩) n n) ∧ V.heap.size ≤ q ∧ w'.ownsRow V.heap.size 9 1 (.slice (some ⟨q, 0, none⟩) n n) n (strsV (ls.map bstr)) ∧ Below V.heap.size V w') fun e w' h => ⟨_, h.1, Nat.le_refl _, h.2.1, h.2.2⟩
  have HN : Hid ((ls.map bstr).length = n) := Lib.hid (by rw [List.length_map]; exact hn)
  have HSM : Hid (∀ z ∈ ls.map bstr, z.size ≤ maxLen) := Lib.hid fun z hz => by
    obtain ⟨l, hlm, rfl⟩ := List.mem_map.1 hz
    have h1 := hl l hlm
    show (bstr l).size ≤ maxLen
    unfold maxLen bstr
    simp [ByteArray.size]
    omega
  have HB := Lib.hid hb
  have HBW := Lib.hid hbW
  have HW := Lib.hid hW
  obtain ⟨zs, hzs⟩ : ∃ zs, ls.map bstr = zs := ⟨_, rfl⟩
  rw [hzs] at HTX HN HSM HB ⊢
  have HBk : Hid (Below W.heap.size W W) := Lib.hid (Below.refl _ _)
  clear hs hn hl hb hW hbW hzs
  obtain ⟨m1, m2, m3, m4, m5, m6⟩ := two_ahead (show w.heap.size + 1 < W.heap.size by omega)
  have HSZ := Lib.hid hsz
  clear hsz
  go_enter Try.func151, Try.ntmps151
  go_upto_region 1 with fail
  rw [HW.out]
  go_cut [4] (fun s wx => GAt W wx s gens zs n)
  case first =>
    go_region_held3 (fun w' : World => w'.cell? ⟨w.heap.size, 0, none⟩ = some (.int .i64 gens) ∧ w'.cell? ⟨w.heap.size, 1, none⟩ = some (.slice (some ⟨g, 0, none⟩) n cap)) (first | go_keep | exact ⟨k0, k1⟩)
      (first
        | (go_at_call 189
           with_reducible refine (HTX.out _ (by first | exact HBk.out.drew | exact (HBk.out.alloc HBk.out.size _).drew | exact HBk.out | exact HBk.out.alloc HBk.out.size _)).mono ?_
           rintro e V ⟨gq, rfl, hog, hoq, hbv⟩
           have hgr : GRow _ V (.slice (some ⟨_, 0, none⟩) n n) zs := ⟨by unfold OwnS; rw [HN.out]; exact hoq, HSM⟩
           have HOG := Lib.hid hog
           have HRQ := Lib.hid hgr
           have HBS := Lib.hid HBk.out.size
           clear hoq hgr hog
           have hbn : Below W.heap.size W V := by
             first
             | exact HBk.out.trans (hbv.mono HBk.out.size)
             | exact HBk.out.drew.trans (hbv.mono HBk.out.size)
             | exact below_alloc HBk.out HBk.out.size hbv
             | exact below_drewAlloc HBk.out HBk.out.size hbv
           first
           | (have HZ : Hid (BoxZ V W.heap.size) := Lib.hid (gBox.of (w := W.drew) hbv); have HZL := Lib.hid (Nat.le_refl W.heap.size); obtain ⟨_, y0, y1, y2, y3⟩ := HZ.out)
           | (have HZ : Hid (BoxZ V W.heap.size) := Lib.hid (gBox.ofd (w := W) hbv); have HZL := Lib.hid (Nat.le_refl W.heap.size); obtain ⟨_, y0, y1, y2, y3⟩ := HZ.out)
           | skip
           obtain ⟨⟨k0, k1⟩, _⟩ := HC.out V hbn
           obtain ⟨o1, o2, o3, o4, o5, o6⟩ := two_ahead (show w.heap.size + 1 < V.heap.size by have h1 := hbn.size; have h2 := HSZ.out; omega)
           clear HBk
           have HBk := Lib.hid hbn
           clear hbv hbn))
    all_goals (go_wp2_with fail; go_meet)
    all_goals first
      | exact gAtA HBk.out HRQ.out (by have := HBS.out; first | exact this | (simp; done) | (simp; omega))
      | exact gAtC HBk.out HRQ.out (by have := HBS.out; first | exact this | (simp; done) | (simp; omega)) HZ.out HZL.out (by have h1 := HOG.out; first | omega | (simp at h1; omega) | (simp [World.drew] at h1; omega))
  case rest =>
  obtain ⟨j, a, c, hs1, hbox, hjl, hgr, hne, hb1⟩ := hcut
  subst hs1
  clear HBk k0 k1 d0 d1 f0 f1 m1 m2 m3 m4 m5 m6
  obtain ⟨W1, hwq⟩ : ∃ X, wc = X := ⟨_, rfl⟩
  rw [hwq] at hbox hgr hb1 ⊢
  clear hwq
  have hln := HN.out
  obtain ⟨a2, c2, he2, hst⟩ := hgr.strs
  simp only [Value.slice.injEq] at he2
  obtain ⟨rfl, hq2, rfl⟩ := he2
  have HGI := Lib.hid (iGroupIn_any gens a c n zs b W1 ⟨hln, by unfold maxLen; omega, hst⟩ HB.out)
  have HGR := Lib.hid hgr
  have HX := Lib.hid hbox
  have HB1 := Lib.hid hb1
  obtain ⟨_, q0, q1⟩ := hbox
  clear hgr hb1 hst hq2 hln
  go_wp2_with fail
  refine HGI.out.mono ?_
  rintro e w2 ⟨rfl, hb2⟩
  have HB2 := Lib.hid (HB1.out.trans (hb2.mono HB1.out.size))
  have HGR2 := Lib.hid (HGR.out.below hb2)
  clear q0 q1
  obtain ⟨_, q0, q1⟩ := HX.out.below hb2
  obtain ⟨_, d0, d1, f0, f1⟩ := HC.out w2 HB2.out
  clear hb2
  cases b with
  | false =>
    go_wp2
    have hfin : ToldG w false ⟨gens, zs⟩ (.returned (.tuple #[plV 0 (.slice none 0 0), .bool false])) ((w2.setCell ⟨w.heap.size + 1, 0, none⟩ (.int .i64 0)).setCell ⟨w.heap.size + 1, 1, none⟩ (.slice none 0 0)) :=
      ⟨⟨_, rfl, GRow.nothing _ _⟩, ((HBW.out.trans (HB2.out.mono HBW.out.size)).setCell (p := ⟨w.heap.size + 1, 0, none⟩) (by show w.heap.size ≤ w.heap.size + 1; omega) _).setCell (p := ⟨w.heap.size + 1, 1, none⟩) (by show w.heap.size ≤ w.heap.size + 1; omega) _⟩
    refine bodyPost_ret (v := .tuple #[plV 0 (.slice none 0 0), .bool false]) ?_ rfl hfin
    simp [results, Try.results151, go_sem, d0, d1, plV]
  | true =>
    go_wp2
    have hfin : ToldG w true ⟨gens, zs⟩ (.returned (.tuple #[plV gens (.slice (some ⟨a, 0, none⟩) n c), .bool true])) ((w2.setCell ⟨w.heap.size + 1, 0, none⟩ (.int .i64 gens)).setCell ⟨w.heap.size + 1, 1, none⟩ (.slice (some ⟨a, 0, none⟩) n c)) := by
      have hk : ∀ k, (Value.slice (some ⟨a, 0, none⟩) n c).ownBlock = some k → w.heap.size + 1 < k := fun k e => by have h1 := own_ge HGR2.out.1 k e; have h2 := HSZ.out; omega
      exact ⟨⟨_, rfl, ((HGR2.out.mono (by have h2 := HSZ.out; omega)).set hk).set hk⟩, ((HBW.out.trans (HB2.out.mono HBW.out.size)).setCell (p := ⟨w.heap.size + 1, 0, none⟩) (by show w.heap.size ≤ w.heap.size + 1; omega) _).setCell (p := ⟨w.heap.size + 1, 1, none⟩) (by show w.heap.size ≤ w.heap.size + 1; omega) _⟩
    refine bodyPost_ret (v := .tuple #[plV gens (.slice (some ⟨a, 0, none⟩) n c), .bool true]) ?_ rfl hfin
    simp [results, Try.results151, go_sem, d0, d1, plV]

end Go.Proofs.Ytbbkpaledlbcmaa

/- The model's l8Put, GroupMove and GroupJoin. -/

namespace Go.Proofs.Ytbbkpaledlbcmaa
open Go.RowKit Go.Shelf

def hasB (zs : List ByteArray) (i : Int) : Bool := decide (0 ≤ i ∧ i < zs.length)
def mvS (zs : List ByteArray) (i : Int) (s : ByteArray) : ByteArray := bstr (redL [] (s.data.toList ++ (zs.getD i.toNat ByteArray.empty).data.toList ++ backL s.data.toList))
def mvZ (zs : List ByteArray) (i : Int) (s : ByteArray) : List ByteArray := zs.set i.toNat (mvS zs i s)
def movedB (low : Int) (zs : List ByteArray) (i : Int) (s : ByteArray) : Bool := groupB low zs && (hasB zs i && (wordB s.data.toList && groupB low (mvZ zs i s)))
def movedP (low : Int) (zs : List ByteArray) (i : Int) (s : ByteArray) : Gp := doneG (movedB low zs i s) ⟨low, mvZ zs i s⟩
def jnS (zs : List ByteArray) (i k : Int) : ByteArray := bstr (redL [] ((zs.getD i.toNat ByteArray.empty).data.toList ++ (zs.getD k.toNat ByteArray.empty).data.toList))
def jnZ (zs : List ByteArray) (i k : Int) : List ByteArray := zs.set i.toNat (jnS zs i k)
def joinedB (low : Int) (zs : List ByteArray) (i k : Int) : Bool := groupB low zs && (hasB zs i && (hasB zs k && (!decide (i = k) && groupB low (jnZ zs i k))))
def joinedP (low : Int) (zs : List ByteArray) (i k : Int) : Gp := doneG (joinedB low zs i k) ⟨low, jnZ zs i k⟩
theorem hasB_nat {zs : List ByteArray} {i : Int} (h : hasB zs i = true) : ∃ j : Nat, i = (j : Int) ∧ j < zs.length := by
  unfold hasB at h
  have h := of_decide_eq_true h
  exact ⟨i.toNat, by omega, by omega⟩
theorem ToldG.no {w w' : World} {b : Bool} {p : Gp} (hb : b = false) (hB : Below w.heap.size w w') : ToldG w b p (.returned (.tuple #[plV 0 (.slice none 0 0), .bool false])) w' := by
  subst hb
  exact ⟨⟨_, rfl, GRow.nothing _ _⟩, hB⟩

set_option maxRecDepth 100000 in
set_option maxHeartbeats 4000000 in
theorem l8Put_any (low : Int) (g cap n i : Nat) (s : ByteArray) (zs : List ByteArray) (b : Bool) (w : World) (hs : IsStrs w (some ⟨g, 0, none⟩) n zs) (hn : n ≤ 1000000) (hi : i < n) (hsz : s.size ≤ maxLen) (hb : groupB low (zs.set i s) = b) :
    Calls Try.prog 144 #[plV low (.slice (some ⟨g, 0, none⟩) n cap), .int .i64 (i : Int), .string s] w (ToldG w b ⟨low, zs.set i s⟩) := by
  obtain ⟨i0, hi0, hz0, hz1, hz2⟩ := info_parts infoStr
  obtain ⟨W, hW⟩ : ∃ W, (w.alloc (.cells #[.int .i64 low, .slice (some ⟨g, 0, none⟩) n cap] 64)).alloc (.cells #[.int .i64 0, .slice none 0 0] 64) = W := ⟨_, rfl⟩
  obtain ⟨hbW, hsz2⟩ := boxes2Below hW
  have HC : Hid (∀ w1, Below W.heap.size W w1 → _) := Lib.hid fun w1 (hg : Below W.heap.size W w1) => boxes2 hW hg
  obtain ⟨V, hV⟩ : ∃ V, W.alloc (.cells #[] 9) = V := ⟨_, rfl⟩
  have hbV : Below W.heap.size W V := by rw [← hV]; exact (Below.refl _ _).alloc (Nat.le_refl _) _
  have hsV : V.heap.size = W.heap.size + 1 := by rw [← hV]; simp
  have hO : V.ownsRow W.heap.size 9 1 (.slice (some ⟨W.heap.size, 0, none⟩) 0 0) 0 [] := by rw [← hV]; exact World.ownsRow_made W #[] 0 (Nat.le_refl _) (Nat.zero_le _) rfl
  have k0 := (HC.out V hbV).1.1
  have k1 := (HC.out V hbV).1.2
  have hsW := hs.below (hbW.trans (hbV.mono hbW.size))
  have HN := Lib.hid hs.len
  have HNEWS : Hid (∀ j u, (strsV zs)[j]? = some u → V.cell? ((⟨g, 0, none⟩ : Addr).add j) = some u) := Lib.hid fun j u hu => by
    have hj : j < zs.length := by have := (List.getElem?_eq_some_iff.1 hu).1; rwa [strsV_len] at this
    obtain ⟨x, e, _, hc⟩ := hsW.at_.cells (by omega)
    cases e
    rw [hc j hj]
    simpa [strsV, hj] using hu
  have HSM : Hid (∀ z ∈ zs.set i s, z.size ≤ maxLen) := Lib.hid fun z hz => by
    rcases List.mem_or_eq_of_mem_set hz with h | h
    · exact hs.at_.small z h
    · rw [h]; exact hsz
  have HLS : Hid ((zs.set i s).length = n) := Lib.hid (by rw [List.length_set]; exact hs.len)
  have HSET : Hid ((strsV zs).set i (.string s) = strsV (zs.set i s)) := Lib.hid (by unfold strsV; rw [List.map_set])
  have HB := Lib.hid hb
  have HBW := Lib.hid hbW
  have HBV := Lib.hid hbV
  have HO := Lib.hid hO
  have HSZ := Lib.hid hsz2
  have HVV : Hid (((w.alloc (.cells #[.int .i64 low, .slice (some ⟨g, 0, none⟩) n cap] 64)).alloc (.cells #[.int .i64 0, .slice none 0 0] 64)).alloc (.cells #[] 9) = V) := Lib.hid (by rw [hW, hV])
  rw [← HVV.out] at k0 k1
  have HSV := Lib.hid hsV
  have hiI : (i : Int) < (n : Int) := by omega
  obtain ⟨zs2, hzs2⟩ : ∃ zs2, zs.set i s = zs2 := ⟨_, rfl⟩
  rw [hzs2] at HSM HLS HSET HB ⊢
  have hgs : W.heap.size = w.heap.size + 1 + 1 := hsz2
  clear hs hsW hb hV hbV hO hW hbW hsz2 hsV hzs2
  rw [hgs] at HO
  go_enter Try.func144, Try.ntmps144
  have HGS := Lib.hid hgs
  clear hgs
  go_wp2_with (at_builtin; rw [HVV.out]; refine wpList_append_own _ rfl _ _ 59 rfl (w.heap.size + 1 + 1) 9 i0 (.string ByteArray.empty) 1 16 Try.underlying59 hi0 hz0 hz1 hz2 rfl (by decide) _ 0 _ rfl HO.out ⟨g, 0, none⟩ n cap (strsV zs) rfl (by rw [strsV_len, HN.out, Nat.mul_one]) HNEWS.out (fun u hu => by unfold strsV at hu; obtain ⟨z, _, rfl⟩ := List.mem_map.1 hu; rfl) (by unfold maxLen; omega) (by omega) (by have := HSV.out; have := HGS.out; omega) ?_; intro v1 w1 hown hgrow hnil)
  rw [Nat.zero_add, List.nil_append] at hown
  obtain ⟨g1, c1, rfl⟩ : ∃ g1 c1, v1 = .slice (some ⟨g1, 0, none⟩) n c1 := by
    rcases hown.2 with ⟨rfl, _⟩ | ⟨g1, c1, _, rfl, _⟩
    · have h := (hnil.1 rfl).1
      cases h
    · exact ⟨g1, c1, rfl⟩
  have hB1 : Below W.heap.size W w1 := HBV.out.grown hgrow HBV.out.size fun j e => by cases e; exact Nat.le_of_eq HGS.out
  have hown : w1.ownsRow W.heap.size 9 1 (.slice (some ⟨g1, 0, none⟩) n c1) n (strsV zs) := by rw [HGS.out]; exact hown
  have hlt1 := own_ge hown g1 rfl
  obtain ⟨u, hu⟩ : ∃ u, w1.cell? ⟨g1, i, none⟩ = some u := by
    rw [hown.cellAt i (by omega)]
    exact ⟨_, List.getElem?_eq_getElem (by rw [strsV_len, HN.out]; exact hi)⟩
  have hfr := hown.frozenAt i
  have HROW := Lib.hid hown
  have HB1 := Lib.hid hB1
  have HG1 := Lib.hid hlt1
  obtain ⟨W2, hW2⟩ : ∃ W2, w1.setCell ⟨g1, i, none⟩ (.string s) = W2 := ⟨_, rfl⟩
  have hr2 : GRow W.heap.size W2 (.slice (some ⟨g1, 0, none⟩) n c1) zs2 := by
    have h := (hown.stored i (.string s)).1
    rw [HSET.out, hW2] at h
    exact ⟨by unfold OwnS; rw [HLS.out]; exact h, HSM⟩
  have hB2 : Below W.heap.size W W2 := by rw [← hW2]; exact hB1.setCell (p := ⟨g1, i, none⟩) hlt1 _
  have p0 := (HC.out W2 hB2).1.1
  have p1 := (HC.out W2 hB2).1.2
  obtain ⟨V3, hV3⟩ : ∃ V3, W2.alloc (.cells #[.int .i64 low, .slice (some ⟨g1, 0, none⟩) n c1] 64) = V3 := ⟨_, rfl⟩
  have hb3 : Below W2.heap.size W2 V3 := by rw [← hV3]; exact (Below.refl _ _).alloc (Nat.le_refl _) _
  have hX3 := boxNew hV3
  have HX3 := Lib.hid hX3
  have q0 := hX3.2.1
  have q1 := hX3.2.2
  clear hX3
  obtain ⟨a4, c4, e4, hst4⟩ := (hr2.below hb3).strs
  simp only [Value.slice.injEq] at e4
  obtain ⟨rfl, hq4, rfl⟩ := e4
  have HGI := Lib.hid (sGroupIn_any low (some ⟨g1, 0, none⟩) c1 n zs2 b V3 ⟨HLS.out, by unfold maxLen; omega, hst4⟩ HB.out)
  have HR3 := Lib.hid (hr2.below hb3)
  have HB3 := Lib.hid (hB2.trans (hb3.mono hB2.size))
  have HV3 : Hid ((w1.setCell ⟨g1, i, none⟩ (.string s)).alloc (.cells #[.int .i64 low, .slice (some ⟨g1, 0, none⟩) n c1] 64) = V3) := Lib.hid (by rw [hW2, hV3])
  rw [← hW2] at p0 p1
  have HS2 : Hid (W2.heap.size = w1.heap.size) := Lib.hid (by rw [← hW2]; simp)
  rw [HS2.out] at q0 q1
  rw [← HV3.out] at q0 q1
  have hne1 : ¬ g1 = w.heap.size := by have := HGS.out; omega
  have hne2 : ¬ w.heap.size = g1 := by have := HGS.out; omega
  clear hown hgrow hnil hB1 hlt1 hW2 hr2 hB2 hV3 hb3 hst4 hq4 k0 k1
  have hix : ∀ W : World, (Instr.indexAt 59 (.slice (some ⟨g1, 0, none⟩) n c1) (.int .i64 (i : Int))).run Try.prog W = .ok (.pointer (some ⟨g1, i, none⟩)) W := fun W => by go_simp
  go_wp2_with (rw [hix]; go_simp)
  rw [HV3.out]
  refine HGI.out.mono ?_
  rintro e w4 ⟨rfl, hb4⟩
  have HB4 := Lib.hid (HB3.out.trans (hb4.mono HB3.out.size))
  have HR4 := Lib.hid (HR3.out.below hb4)
  clear p0 p1 q0 q1 hu hfr
  obtain ⟨_, q0, q1⟩ := HX3.out.below hb4
  rw [HS2.out] at q0 q1
  obtain ⟨_, d0, d1, f0, f1⟩ := HC.out w4 HB4.out
  clear hb4
  cases b with
  | false =>
    go_wp2
    refine bodyPost_ret (v := .tuple #[plV 0 (.slice none 0 0), .bool false]) ?_ rfl (ToldG.no rfl (((HBW.out.trans (HB4.out.mono HBW.out.size)).setCell (p := ⟨w.heap.size + 1, 0, none⟩) (by show w.heap.size ≤ w.heap.size + 1; omega) _).setCell (p := ⟨w.heap.size + 1, 1, none⟩) (by show w.heap.size ≤ w.heap.size + 1; omega) _))
    simp [results, Try.results144, go_sem, d0, d1, plV]
  | true =>
    go_wp2
    have hfin : ToldG w true ⟨low, zs2⟩ (.returned (.tuple #[plV low (.slice (some ⟨g1, 0, none⟩) n c1), .bool true])) ((w4.setCell ⟨w.heap.size + 1, 0, none⟩ (.int .i64 low)).setCell ⟨w.heap.size + 1, 1, none⟩ (.slice (some ⟨g1, 0, none⟩) n c1)) := by
      have hk : ∀ k, (Value.slice (some ⟨g1, 0, none⟩) n c1).ownBlock = some k → w.heap.size + 1 < k := fun k e => by have h1 := own_ge HR4.out.1 k e; have h2 := HGS.out; omega
      exact ⟨⟨_, rfl, ((HR4.out.mono (by have h2 := HGS.out; omega)).set hk).set hk⟩, ((HBW.out.trans (HB4.out.mono HBW.out.size)).setCell (p := ⟨w.heap.size + 1, 0, none⟩) (by show w.heap.size ≤ w.heap.size + 1; omega) _).setCell (p := ⟨w.heap.size + 1, 1, none⟩) (by show w.heap.size ≤ w.heap.size + 1; omega) _⟩
    refine bodyPost_ret (v := .tuple #[plV low (.slice (some ⟨g1, 0, none⟩) n c1), .bool true]) ?_ rfl hfin
    simp [results, Try.results144, go_sem, d0, d1, plV]

end Go.Proofs.Ytbbkpaledlbcmaa

/- The model's GroupMove and GroupJoin. -/

namespace Go.Proofs.Ytbbkpaledlbcmaa
open Go.RowKit Go.Shelf

theorem appG_toList (a b : ByteArray) : (a ++ b).data.toList = a.data.toList ++ b.data.toList := by simp
theorem appG_size (a b : ByteArray) : (a ++ b).size = a.size + b.size := by simp

set_option maxRecDepth 100000 in
set_option maxHeartbeats 4000000 in
theorem sGroupMove_any (low : Int) (g cap n : Nat) (zs : List ByteArray) (i : Int) (s : ByteArray) (w : World) (hs : IsStrs w (some ⟨g, 0, none⟩) n zs) (hz : s.size ≤ maxLen) :
    Calls Try.prog 80 #[plV low (.slice (some ⟨g, 0, none⟩) n cap), .int .i64 i, .string s] w (ToldG w (movedB low zs i s) ⟨low, mvZ zs i s⟩) := by
  have hm := hs.max
  unfold maxLen at hm
  obtain ⟨W, hW⟩ : ∃ W, (w.alloc (.cells #[.int .i64 low, .slice (some ⟨g, 0, none⟩) n cap] 64)).alloc (.cells #[.int .i64 0, .slice none 0 0] 64) = W := ⟨_, rfl⟩
  obtain ⟨hbW, hsz2⟩ := boxes2Below hW
  have HC : Hid (∀ w1, Below W.heap.size W w1 → _) := Lib.hid fun w1 (hg : Below W.heap.size W w1) => boxes2 hW hg
  obtain ⟨⟨k0, k1⟩, _⟩ := boxes2 hW (Below.refl _ _)
  obtain ⟨bg, hbg⟩ : ∃ bg, groupB low zs = bg := ⟨_, rfl⟩
  have HGI := Lib.hid (sGroupIn_any low (some ⟨g, 0, none⟩) cap n zs bg W (hs.below hbW) hbg)
  have HGL : Hid (0 < n → g < w.heap.size) := Lib.hid fun h0 => by
    obtain ⟨x, e, hb, _⟩ := hs.at_.cells (by have := hs.len; omega)
    cases e
    exact hb
  have HS := Lib.hid (hs.below hbW)
  have HN := Lib.hid hs.len
  have HBG := Lib.hid hbg
  have HBW := Lib.hid hbW
  have HW := Lib.hid hW
  have HSZ := Lib.hid hsz2
  have HNO : Hid (∀ w1, Below W.heap.size W w1 → movedB low zs i s = false → ToldG w (movedB low zs i s) ⟨low, mvZ zs i s⟩ (.returned (.tuple #[plV 0 (.slice none 0 0), .bool false])) ((w1.setCell ⟨w.heap.size + 1, 0, none⟩ (.int .i64 0)).setCell ⟨w.heap.size + 1, 1, none⟩ (.slice none 0 0))) := Lib.hid fun w1 h1 e =>
    ToldG.no e (((hbW.trans (h1.mono hbW.size)).setCell (p := ⟨w.heap.size + 1, 0, none⟩) (by show w.heap.size ≤ w.heap.size + 1; omega) _).setCell (p := ⟨w.heap.size + 1, 1, none⟩) (by show w.heap.size ≤ w.heap.size + 1; omega) _)
  rw [← hW] at k0 k1
  obtain ⟨M, hM⟩ : ∃ M : Int, (n : Int) - 1 = M := ⟨_, rfl⟩
  have hwr : IntKind.i64.wrap ((n : Int) - 1) = M := by rw [IntWalk.i64_in _ (by omega)]; exact hM
  have HM := Lib.hid hM
  clear hs hbg hW hbW hsz2 hM
  go_enter Try.func80, Try.ntmps80
  go_wp2_with fail
  rw [HW.out]
  refine HGI.out.mono ?_
  rintro e w1 ⟨rfl, hb1⟩
  have HB1 := Lib.hid hb1
  clear k0 k1
  obtain ⟨⟨k0, k1⟩, d0, d1, f0, f1⟩ := HC.out w1 hb1
  clear hb1
  cases bg with
  | false =>
    have HF : Hid (movedB low zs i s = false) := Lib.hid (by unfold movedB; rw [HBG.out]; rfl)
    go_wp2
    refine bodyPost_ret (v := .tuple #[plV 0 (.slice none 0 0), .bool false]) ?_ rfl (HNO.out w1 HB1.out HF.out)
    simp [results, Try.results80, go_sem, d0, d1, plV]
  | true =>
    cases hi : hasB zs i with
    | false =>
      have HI := Lib.hid hi
      have HIN : Hid (inR 0 M i = false) := Lib.hid (by have h1 := of_decide_eq_false hi; have h2 := HN.out; have h3 := HM.out; unfold inR; by_cases h4 : 0 ≤ i <;> simp [h4] <;> omega)
      clear hi
      go_wp2_with fail
      refine (l6In_eq _ _ _ false _ HIN.out).mono ?_
      rintro e w2 ⟨rfl, rfl⟩
      have HF : Hid (movedB low zs i s = false) := Lib.hid (by unfold movedB; rw [HBG.out, HI.out]; rfl)
      go_wp2
      refine bodyPost_ret (v := .tuple #[plV 0 (.slice none 0 0), .bool false]) ?_ rfl (HNO.out w1 HB1.out HF.out)
      simp [results, Try.results80, go_sem, d0, d1, plV]
    | true =>
      have HI := Lib.hid hi
      obtain ⟨j, rfl, hj⟩ := hasB_nat hi
      have hjn : j < n := by have := HN.out; omega
      have HIN : Hid (inR 0 M (j : Int) = true) := Lib.hid (by have h3 := HM.out; unfold inR; rw [decide_eq_true (by omega), decide_eq_true (by omega)]; rfl)
      clear hi
      cases hw : wordB s.data.toList with
      | false =>
        have HWD := Lib.hid hw
        clear hw
        go_wp2_with fail
        refine (l6In_eq _ _ _ true _ HIN.out).mono ?_
        rintro e w2 ⟨rfl, rfl⟩
        go_wp2_with fail
        refine (sWordIn_is s false _ hz HWD.out).mono ?_
        rintro e w2 ⟨rfl, hb2⟩
        have HB2 := Lib.hid (HB1.out.trans (hb2.mono HB1.out.size))
        clear k0 k1 d0 d1 f0 f1
        obtain ⟨_, d0, d1, f0, f1⟩ := HC.out w2 HB2.out
        clear hb2
        have HF : Hid (movedB low zs (j : Int) s = false) := Lib.hid (by unfold movedB; rw [HBG.out, HI.out, HWD.out]; rfl)
        go_wp2
        refine bodyPost_ret (v := .tuple #[plV 0 (.slice none 0 0), .bool false]) ?_ rfl (HNO.out w2 HB2.out HF.out)
        simp [results, Try.results80, go_sem, d0, d1, plV]
      | true =>
        have HWD := Lib.hid hw
        clear hw
        go_wp2_with fail
        refine (l6In_eq _ _ _ true _ HIN.out).mono ?_
        rintro e w2 ⟨rfl, rfl⟩
        go_wp2_with fail
        refine (sWordIn_is s true _ hz HWD.out).mono ?_
        rintro e w2 ⟨rfl, hb2⟩
        have HB2 := Lib.hid (HB1.out.trans (hb2.mono HB1.out.size))
        have hrel := groupB_iff.1 HBG.out
        have hsB := HS.out.below HB2.out
        obtain ⟨x, e, hbx, hcx⟩ := hsB.at_.cells (by omega)
        cases e
        have hadd : ∀ t : Nat, (⟨g, 0, none⟩ : Addr).add t = ⟨g, t, none⟩ := fun t => by unfold Addr.add; split <;> simp_all
        obtain ⟨r, hr⟩ : ∃ r, zs[j] = r := ⟨_, rfl⟩
        have hgd : zs.getD j ByteArray.empty = r := by rw [List.getD_eq_getElem?_getD, List.getElem?_eq_getElem hj]; exact hr
        have c0 : w2.cell? ⟨g, j, none⟩ = some (.string r) := by have := hcx j hj; rw [hadd, hr] at this; exact this
        have hr60 : r.size ≤ 60 := by have := ((wordB_iff _).1 (hrel.2.2 _ (List.getElem_mem hj)).1).1; rw [hr] at this; simpa using this
        obtain ⟨bk, hbk⟩ : ∃ bk, bstr (backL s.data.toList) = bk := ⟨_, rfl⟩
        have hs60 : s.size ≤ 60 := by have := ((wordB_iff _).1 HWD.out).1; simpa using this
        have hbks : bk.size ≤ 60 := by rw [← hbk, bstr_size, backL_length]; simpa using hs60
        obtain ⟨x, hx⟩ : ∃ x, mvS zs (j : Int) s = x := ⟨_, rfl⟩
        have HBK : Hid (∀ V : World, Calls Try.prog 146 #[.string s] V fun e w' => e = .returned (.string bk) ∧ Below V.heap.size V w') := Lib.hid fun V => by rw [← hbk]; exact back_any s V (by omega)
        have hbt : bk.data.toList = backL s.data.toList := by rw [← hbk]; rfl
        have HRD : Hid (∀ V : World, Calls Try.prog 145 #[.string (s ++ r ++ bk)] V fun e w' => e = .returned (.string x) ∧ Below V.heap.size V w') := Lib.hid fun V => reduce_is _ x V (by rw [appG_size, appG_size]; omega) (by rw [appG_toList, appG_toList, hbt, ← hx]; unfold mvS; rw [show ((j : Int)).toNat = j from rfl, hgd])
        have hxs : x.size ≤ maxLen := by
          rw [← hx]; unfold mvS maxLen; rw [show ((j : Int)).toNat = j from rfl, hgd]; rw [bstr_size]; have h1 := redL_len (s.data.toList ++ r.data.toList ++ backL s.data.toList) []; have h2 : s.data.toList.length = s.size := by simp
          have h3 : r.data.toList.length = r.size := by simp
          rw [List.length_append, List.length_append, backL_length, h2, h3, List.length_nil] at h1
          omega
        have hnot : ¬ 9223372036854775807 < s.size + r.size := by omega
        have hnot2 : ¬ 9223372036854775807 < s.size + r.size + bk.size := by omega
        have hnot3 : ¬ 9223372036854775807 < (s ++ r).size + bk.size := by rw [appG_size]; omega
        have hZ : mvZ zs (j : Int) s = zs.set j x := by unfold mvZ; rw [hx]; rfl
        obtain ⟨b, hb⟩ : ∃ b, groupB low (zs.set j x) = b := ⟨_, rfl⟩
        have HBE : Hid (movedB low zs (j : Int) s = b) := Lib.hid (by unfold movedB; rw [HBG.out, HI.out, HWD.out, hZ, hb]; rfl)
        obtain ⟨D, hD⟩ : ∃ D, doneG b ⟨low, zs.set j x⟩ = D := ⟨_, rfl⟩
        obtain ⟨L, hL⟩ : ∃ L, D.cs.length = L := ⟨_, rfl⟩
        have HPT : Hid (∀ V, Below W.heap.size W V → Calls Try.prog 144 #[plV low (.slice (some ⟨g, 0, none⟩) n cap), .int .i64 (j : Int), .string x] V fun e w' => ∃ a c, e = .returned (.tuple #[plV D.low (.slice a L c), .bool b]) ∧ GRow V.heap.size w' (.slice a L c) D.cs ∧ Below V.heap.size V w') := Lib.hid fun V hV => (l8Put_any low g cap n j x zs b V (HS.out.below hV) (by have h1 := hrel.2.1; have h2 := HN.out; omega) hjn hxs hb).mono fun e w' h => by
          obtain ⟨⟨v, h1, h2⟩, h3⟩ := h
          rw [hD] at h1 h2
          obtain ⟨a, _, c, rfl, _⟩ := h2.shape
          rw [hL] at h1 h2
          exact ⟨a, c, h1, h2, h3⟩
        have HFIN : Hid (∀ (V : World) (v : Value), Below W.heap.size W V → GRow W.heap.size V v D.cs → ToldG w (movedB low zs (j : Int) s) ⟨low, mvZ zs (j : Int) s⟩ (.returned (.tuple #[plV D.low v, .bool b])) ((V.setCell ⟨w.heap.size + 1, 0, none⟩ (.int .i64 D.low)).setCell ⟨w.heap.size + 1, 1, none⟩ v)) := Lib.hid fun V v hV hr => by
          rw [HBE.out, hZ]
          have h2 := HSZ.out
          have hk : ∀ k, v.ownBlock = some k → w.heap.size + 1 < k := fun k e => by have h1 := own_ge hr.1 k e; omega
          exact ⟨⟨v, by rw [hD], by rw [hD]; exact ((hr.mono (by omega)).set hk).set hk⟩, ((HBW.out.trans (hV.mono HBW.out.size)).setCell (p := ⟨w.heap.size + 1, 0, none⟩) (by show w.heap.size ≤ w.heap.size + 1; omega) _).setCell (p := ⟨w.heap.size + 1, 1, none⟩) (by show w.heap.size ≤ w.heap.size + 1; omega) _⟩
        have HCE : Hid (∀ V, Below w2.heap.size w2 V → V.cell? ⟨w.heap.size, 0, none⟩ = some (.int .i64 low) ∧ V.cell? ⟨w.heap.size, 1, none⟩ = some (.slice (some ⟨g, 0, none⟩) n cap) ∧ V.cell? ⟨g, j, none⟩ = some (.string r)) := Lib.hid fun V hV => by
          have h := (HC.out V (HB2.out.trans (hV.mono HB2.out.size))).1
          exact ⟨h.1, h.2, (hV.cell (p := ⟨g, j, none⟩) hbx).trans c0⟩
        have hgl := HGL.out (by omega)
        have hg1 : ¬ g = w.heap.size + 1 := by omega
        have hg2 : ¬ w.heap.size + 1 = g := by omega
        have HBk : Hid (Below w2.heap.size w2 w2) := Lib.hid (Below.refl _ _)
        clear hrel hsB hcx hr hgd hx hxs hZ hb hD hL k0 k1 c0 d0 d1 f0 f1 hbk hbt hb2
        obtain ⟨k0, k1, c0⟩ := HCE.out w2 (Below.refl _ _)
        go_upto_region 3 with fail
        go_region_held3 (fun w' : World => w'.cell? ⟨w.heap.size, 0, none⟩ = some (.int .i64 low) ∧ w'.cell? ⟨w.heap.size, 1, none⟩ = some (.slice (some ⟨g, 0, none⟩) n cap) ∧ w'.cell? ⟨g, j, none⟩ = some (.string r)) (first | go_keep | exact ⟨k0, k1, c0⟩)
          (first
            | (go_at_call 146
               with_reducible refine (HBK.out _).mono ?_
               rintro e V ⟨rfl, hbv⟩
               have hbn : Below w2.heap.size w2 V := by first | exact HBk.out.trans (hbv.mono HBk.out.size) | exact HBk.out.drew.trans (hbv.mono HBk.out.size)
               obtain ⟨k0, k1, c0⟩ := HCE.out V hbn
               clear HBk
               have HBk := Lib.hid hbn
               clear hbv hbn)
            | (go_at_call 145
               with_reducible refine (HRD.out _).mono ?_
               rintro e V ⟨rfl, hbv⟩
               have hbn : Below w2.heap.size w2 V := by first | exact HBk.out.trans (hbv.mono HBk.out.size) | exact HBk.out.drew.trans (hbv.mono HBk.out.size)
               obtain ⟨k0, k1, c0⟩ := HCE.out V hbn
               clear HBk
               have HBk := Lib.hid hbn
               clear hbv hbn)
            | (go_at_call 144
               with_reducible refine (HPT.out _ (HB2.out.trans (HBk.out.mono HB2.out.size))).mono ?_
               rintro e V ⟨aq, cq, rfl, hgr, hbv⟩
               have HGR := Lib.hid (hgr.mono (Nat.le_trans HB2.out.size HBk.out.size))
               clear hgr
               have hbn : Below w2.heap.size w2 V := by first | exact HBk.out.trans (hbv.mono HBk.out.size) | exact HBk.out.drew.trans (hbv.mono HBk.out.size)
               obtain ⟨k0, k1, c0⟩ := HCE.out V hbn
               obtain ⟨_, d0, d1, f0, f1⟩ := HC.out V (HB2.out.trans (hbn.mono HB2.out.size))
               clear HBk
               have HBk := Lib.hid hbn
               clear hbv hbn))
        have HBV := Lib.hid (HB2.out.trans (HBk.out.mono HB2.out.size))
        go_wp2
        refine bodyPost_ret (v := .tuple #[plV D.low (.slice aq L cq), .bool b]) ?_ rfl (HFIN.out V _ HBV.out HGR.out)
        simp [results, Try.results80, go_sem, d0, d1, plV]

set_option maxRecDepth 100000 in
set_option maxHeartbeats 4000000 in
theorem sGroupJoin_any (low : Int) (g cap n : Nat) (zs : List ByteArray) (i k : Int) (w : World) (hs : IsStrs w (some ⟨g, 0, none⟩) n zs) :
    Calls Try.prog 83 #[plV low (.slice (some ⟨g, 0, none⟩) n cap), .int .i64 i, .int .i64 k] w (ToldG w (joinedB low zs i k) ⟨low, jnZ zs i k⟩) := by
  have hm := hs.max
  unfold maxLen at hm
  obtain ⟨W, hW⟩ : ∃ W, (w.alloc (.cells #[.int .i64 low, .slice (some ⟨g, 0, none⟩) n cap] 64)).alloc (.cells #[.int .i64 0, .slice none 0 0] 64) = W := ⟨_, rfl⟩
  obtain ⟨hbW, hsz2⟩ := boxes2Below hW
  have HC : Hid (∀ w1, Below W.heap.size W w1 → _) := Lib.hid fun w1 (hg : Below W.heap.size W w1) => boxes2 hW hg
  obtain ⟨⟨k0, k1⟩, _⟩ := boxes2 hW (Below.refl _ _)
  obtain ⟨bg, hbg⟩ : ∃ bg, groupB low zs = bg := ⟨_, rfl⟩
  have HGI := Lib.hid (sGroupIn_any low (some ⟨g, 0, none⟩) cap n zs bg W (hs.below hbW) hbg)
  have HGL : Hid (0 < n → g < w.heap.size) := Lib.hid fun h0 => by
    obtain ⟨x, e, hb, _⟩ := hs.at_.cells (by have := hs.len; omega)
    cases e
    exact hb
  have HS := Lib.hid (hs.below hbW)
  have HN := Lib.hid hs.len
  have HBG := Lib.hid hbg
  have HBW := Lib.hid hbW
  have HW := Lib.hid hW
  have HSZ := Lib.hid hsz2
  have HNO : Hid (∀ w1, Below W.heap.size W w1 → joinedB low zs i k = false → ToldG w (joinedB low zs i k) ⟨low, jnZ zs i k⟩ (.returned (.tuple #[plV 0 (.slice none 0 0), .bool false])) ((w1.setCell ⟨w.heap.size + 1, 0, none⟩ (.int .i64 0)).setCell ⟨w.heap.size + 1, 1, none⟩ (.slice none 0 0))) := Lib.hid fun w1 h1 e =>
    ToldG.no e (((hbW.trans (h1.mono hbW.size)).setCell (p := ⟨w.heap.size + 1, 0, none⟩) (by show w.heap.size ≤ w.heap.size + 1; omega) _).setCell (p := ⟨w.heap.size + 1, 1, none⟩) (by show w.heap.size ≤ w.heap.size + 1; omega) _)
  rw [← hW] at k0 k1
  obtain ⟨M, hM⟩ : ∃ M : Int, (n : Int) - 1 = M := ⟨_, rfl⟩
  have hwr : IntKind.i64.wrap ((n : Int) - 1) = M := by rw [IntWalk.i64_in _ (by omega)]; exact hM
  have HM := Lib.hid hM
  clear hs hbg hW hbW hsz2 hM
  go_enter Try.func83, Try.ntmps83
  go_wp2_with fail
  rw [HW.out]
  refine HGI.out.mono ?_
  rintro e w1 ⟨rfl, hb1⟩
  have HB1 := Lib.hid hb1
  clear k0 k1
  obtain ⟨⟨k0, k1⟩, d0, d1, f0, f1⟩ := HC.out w1 hb1
  clear hb1
  cases bg with
  | false =>
    have HF : Hid (joinedB low zs i k = false) := Lib.hid (by unfold joinedB; rw [HBG.out]; rfl)
    go_wp2
    refine bodyPost_ret (v := .tuple #[plV 0 (.slice none 0 0), .bool false]) ?_ rfl (HNO.out w1 HB1.out HF.out)
    simp [results, Try.results83, go_sem, d0, d1, plV]
  | true =>
    cases hi : hasB zs i with
    | false =>
      have HI := Lib.hid hi
      have HIN : Hid (inR 0 M i = false) := Lib.hid (by have h1 := of_decide_eq_false hi; have h2 := HN.out; have h3 := HM.out; unfold inR; by_cases h4 : 0 ≤ i <;> simp [h4] <;> omega)
      clear hi
      go_wp2_with fail
      refine (l6In_eq _ _ _ false _ HIN.out).mono ?_
      rintro e w2 ⟨rfl, rfl⟩
      have HF : Hid (joinedB low zs i k = false) := Lib.hid (by unfold joinedB; rw [HBG.out, HI.out]; rfl)
      go_wp2
      refine bodyPost_ret (v := .tuple #[plV 0 (.slice none 0 0), .bool false]) ?_ rfl (HNO.out w1 HB1.out HF.out)
      simp [results, Try.results83, go_sem, d0, d1, plV]
    | true =>
      have HI := Lib.hid hi
      obtain ⟨j, rfl, hj⟩ := hasB_nat hi
      have hjn : j < n := by have := HN.out; omega
      have HIN : Hid (inR 0 M (j : Int) = true) := Lib.hid (by have h3 := HM.out; unfold inR; rw [decide_eq_true (by omega), decide_eq_true (by omega)]; rfl)
      clear hi
      cases hk : hasB zs k with
      | false =>
        have HK := Lib.hid hk
        have HKN : Hid (inR 0 M k = false) := Lib.hid (by have h1 := of_decide_eq_false hk; have h2 := HN.out; have h3 := HM.out; unfold inR; by_cases h4 : 0 ≤ k <;> simp [h4] <;> omega)
        clear hk
        go_wp2_with fail
        refine (l6In_eq _ _ _ true _ HIN.out).mono ?_
        rintro e w2 ⟨rfl, rfl⟩
        go_wp2_with fail
        refine (l6In_eq _ _ _ false _ HKN.out).mono ?_
        rintro e w2 ⟨rfl, rfl⟩
        have HF : Hid (joinedB low zs (j : Int) k = false) := Lib.hid (by unfold joinedB; rw [HBG.out, HI.out, HK.out]; rfl)
        go_wp2
        refine bodyPost_ret (v := .tuple #[plV 0 (.slice none 0 0), .bool false]) ?_ rfl (HNO.out w1 HB1.out HF.out)
        simp [results, Try.results83, go_sem, d0, d1, plV]
      | true =>
        have HK := Lib.hid hk
        obtain ⟨q, rfl, hq⟩ := hasB_nat hk
        have hqn : q < n := by have := HN.out; omega
        have HKN : Hid (inR 0 M (q : Int) = true) := Lib.hid (by have h3 := HM.out; unfold inR; rw [decide_eq_true (by omega), decide_eq_true (by omega)]; rfl)
        clear hk
        by_cases hjq : j = q
        · subst hjq
          go_wp2_with fail
          refine (l6In_eq _ _ _ true _ HIN.out).mono ?_
          rintro e w2 ⟨rfl, rfl⟩
          go_wp2_with fail
          refine (l6In_eq _ _ _ true _ HKN.out).mono ?_
          rintro e w2 ⟨rfl, rfl⟩
          have HF : Hid (joinedB low zs (j : Int) (j : Int) = false) := Lib.hid (by unfold joinedB; rw [HBG.out, HI.out]; simp)
          go_wp2
          refine bodyPost_ret (v := .tuple #[plV 0 (.slice none 0 0), .bool false]) ?_ rfl (HNO.out w1 HB1.out HF.out)
          simp [results, Try.results83, go_sem, d0, d1, plV]
        have hne : ¬ (j : Int) = (q : Int) := by omega
        have hne1 : ((j : Int) == (q : Int)) = false := by rw [beq_eq_false_iff_ne]; exact hne
        have hne2 : decide ((j : Int) = (q : Int)) = false := decide_eq_false hne
        go_wp2_with fail
        refine (l6In_eq _ _ _ true _ HIN.out).mono ?_
        rintro e w2 ⟨rfl, rfl⟩
        go_wp2_with fail
        refine (l6In_eq _ _ _ true _ HKN.out).mono ?_
        rintro e w2 ⟨rfl, rfl⟩
        have HB2 := HB1
        have hrel := groupB_iff.1 HBG.out
        have hsB := HS.out.below HB2.out
        obtain ⟨x, e, hbx, hcx⟩ := hsB.at_.cells (by omega)
        cases e
        have hadd : ∀ t : Nat, (⟨g, 0, none⟩ : Addr).add t = ⟨g, t, none⟩ := fun t => by unfold Addr.add; split <;> simp_all
        obtain ⟨r, hr⟩ : ∃ r, zs[j] = r := ⟨_, rfl⟩
        have hgd : zs.getD j ByteArray.empty = r := by rw [List.getD_eq_getElem?_getD, List.getElem?_eq_getElem hj]; exact hr
        have c0 : w1.cell? ⟨g, j, none⟩ = some (.string r) := by have := hcx j hj; rw [hadd, hr] at this; exact this
        have hr60 : r.size ≤ 60 := by have := ((wordB_iff _).1 (hrel.2.2 _ (List.getElem_mem hj)).1).1; rw [hr] at this; simpa using this
        obtain ⟨r2, hr2⟩ : ∃ r, zs[q] = r := ⟨_, rfl⟩
        have hgd2 : zs.getD q ByteArray.empty = r2 := by rw [List.getD_eq_getElem?_getD, List.getElem?_eq_getElem hq]; exact hr2
        have c1 : w1.cell? ⟨g, q, none⟩ = some (.string r2) := by have := hcx q hq; rw [hadd, hr2] at this; exact this
        have hr602 : r2.size ≤ 60 := by have := ((wordB_iff _).1 (hrel.2.2 _ (List.getElem_mem hq)).1).1; rw [hr2] at this; simpa using this
        obtain ⟨x, hx⟩ : ∃ x, jnS zs (j : Int) (q : Int) = x := ⟨_, rfl⟩
        have HRD : Hid (∀ V : World, Calls Try.prog 145 #[.string (r ++ r2)] V fun e w' => e = .returned (.string x) ∧ Below V.heap.size V w') := Lib.hid fun V => reduce_is _ x V (by rw [appG_size]; omega) (by rw [appG_toList, ← hx]; unfold jnS; rw [show ((j : Int)).toNat = j from rfl, show ((q : Int)).toNat = q from rfl, hgd, hgd2])
        have hxs : x.size ≤ maxLen := by
          rw [← hx]; unfold jnS maxLen; rw [show ((j : Int)).toNat = j from rfl, show ((q : Int)).toNat = q from rfl, hgd, hgd2]; rw [bstr_size]; have h1 := redL_len (r.data.toList ++ r2.data.toList) []; have h2 : r.data.toList.length = r.size := by simp
          have h3 : r2.data.toList.length = r2.size := by simp
          rw [List.length_append, h2, h3, List.length_nil] at h1
          omega
        have hnot : ¬ 9223372036854775807 < r.size + r2.size := by omega
        have hZ : jnZ zs (j : Int) (q : Int) = zs.set j x := by unfold jnZ; rw [hx]; rfl
        obtain ⟨b, hb⟩ : ∃ b, groupB low (zs.set j x) = b := ⟨_, rfl⟩
        have HBE : Hid (joinedB low zs (j : Int) (q : Int) = b) := Lib.hid (by unfold joinedB; rw [HBG.out, HI.out, HK.out, hne2, hZ, hb]; rfl)
        obtain ⟨D, hD⟩ : ∃ D, doneG b ⟨low, zs.set j x⟩ = D := ⟨_, rfl⟩
        obtain ⟨L, hL⟩ : ∃ L, D.cs.length = L := ⟨_, rfl⟩
        have HPT : Hid (∀ V, Below W.heap.size W V → Calls Try.prog 144 #[plV low (.slice (some ⟨g, 0, none⟩) n cap), .int .i64 (j : Int), .string x] V fun e w' => ∃ a c, e = .returned (.tuple #[plV D.low (.slice a L c), .bool b]) ∧ GRow V.heap.size w' (.slice a L c) D.cs ∧ Below V.heap.size V w') := Lib.hid fun V hV => (l8Put_any low g cap n j x zs b V (HS.out.below hV) (by have h1 := hrel.2.1; have h2 := HN.out; omega) hjn hxs hb).mono fun e w' h => by
          obtain ⟨⟨v, h1, h2⟩, h3⟩ := h
          rw [hD] at h1 h2
          obtain ⟨a, _, c, rfl, _⟩ := h2.shape
          rw [hL] at h1 h2
          exact ⟨a, c, h1, h2, h3⟩
        have HFIN : Hid (∀ (V : World) (v : Value), Below W.heap.size W V → GRow W.heap.size V v D.cs → ToldG w (joinedB low zs (j : Int) (q : Int)) ⟨low, jnZ zs (j : Int) (q : Int)⟩ (.returned (.tuple #[plV D.low v, .bool b])) ((V.setCell ⟨w.heap.size + 1, 0, none⟩ (.int .i64 D.low)).setCell ⟨w.heap.size + 1, 1, none⟩ v)) := Lib.hid fun V v hV hr => by
          rw [HBE.out, hZ]
          have h2 := HSZ.out
          have hk : ∀ k, v.ownBlock = some k → w.heap.size + 1 < k := fun k e => by have h1 := own_ge hr.1 k e; omega
          exact ⟨⟨v, by rw [hD], by rw [hD]; exact ((hr.mono (by omega)).set hk).set hk⟩, ((HBW.out.trans (hV.mono HBW.out.size)).setCell (p := ⟨w.heap.size + 1, 0, none⟩) (by show w.heap.size ≤ w.heap.size + 1; omega) _).setCell (p := ⟨w.heap.size + 1, 1, none⟩) (by show w.heap.size ≤ w.heap.size + 1; omega) _⟩
        have HCE : Hid (∀ V, Below w1.heap.size w1 V → V.cell? ⟨w.heap.size, 0, none⟩ = some (.int .i64 low) ∧ V.cell? ⟨w.heap.size, 1, none⟩ = some (.slice (some ⟨g, 0, none⟩) n cap) ∧ V.cell? ⟨g, j, none⟩ = some (.string r) ∧ V.cell? ⟨g, q, none⟩ = some (.string r2)) := Lib.hid fun V hV => by
          have h := (HC.out V (HB2.out.trans (hV.mono HB2.out.size))).1
          exact ⟨h.1, h.2, (hV.cell (p := ⟨g, j, none⟩) hbx).trans c0, (hV.cell (p := ⟨g, q, none⟩) hbx).trans c1⟩
        have hgl := HGL.out (by omega)
        have hg1 : ¬ g = w.heap.size + 1 := by omega
        have hg2 : ¬ w.heap.size + 1 = g := by omega
        have HBk : Hid (Below w1.heap.size w1 w1) := Lib.hid (Below.refl _ _)
        clear hrel hsB hcx hr hgd hx hxs hZ hb hD hL k0 k1 c0 d0 d1 f0 f1 hr2 hgd2 c1
        obtain ⟨k0, k1, c0, c1⟩ := HCE.out w1 (Below.refl _ _)
        go_upto_region 3 with fail
        go_region_held3 (fun w' : World => w'.cell? ⟨w.heap.size, 0, none⟩ = some (.int .i64 low) ∧ w'.cell? ⟨w.heap.size, 1, none⟩ = some (.slice (some ⟨g, 0, none⟩) n cap) ∧ w'.cell? ⟨g, j, none⟩ = some (.string r) ∧ w'.cell? ⟨g, q, none⟩ = some (.string r2)) (first | go_keep | exact ⟨k0, k1, c0, c1⟩)
          (first
            | (go_at_call 145
               with_reducible refine (HRD.out _).mono ?_
               rintro e V ⟨rfl, hbv⟩
               have hbn : Below w1.heap.size w1 V := by first | exact HBk.out.trans (hbv.mono HBk.out.size) | exact HBk.out.drew.trans (hbv.mono HBk.out.size)
               obtain ⟨k0, k1, c0, c1⟩ := HCE.out V hbn
               clear HBk
               have HBk := Lib.hid hbn
               clear hbv hbn)
            | (go_at_call 144
               with_reducible refine (HPT.out _ (HB2.out.trans (HBk.out.mono HB2.out.size))).mono ?_
               rintro e V ⟨aq, cq, rfl, hgr, hbv⟩
               have HGR := Lib.hid (hgr.mono (Nat.le_trans HB2.out.size HBk.out.size))
               clear hgr
               have hbn : Below w1.heap.size w1 V := by first | exact HBk.out.trans (hbv.mono HBk.out.size) | exact HBk.out.drew.trans (hbv.mono HBk.out.size)
               obtain ⟨k0, k1, c0, c1⟩ := HCE.out V hbn
               obtain ⟨_, d0, d1, f0, f1⟩ := HC.out V (HB2.out.trans (hbn.mono HB2.out.size))
               clear HBk
               have HBk := Lib.hid hbn
               clear hbv hbn))
        have HBV := Lib.hid (HB2.out.trans (HBk.out.mono HB2.out.size))
        go_wp2
        refine bodyPost_ret (v := .tuple #[plV D.low (.slice aq L cq), .bool b]) ?_ rfl (HFIN.out V _ HBV.out HGR.out)
        simp [results, Try.results83, go_sem, d0, d1, plV]

end Go.Proofs.Ytbbkpaledlbcmaa

/- The laws' samePoly; boxes that may be written. -/

namespace Go.Proofs.Ytbbkpaledlbcmaa
open Go.RowKit

/-- A box of a polynomial that may be written. -/
def BoxF (w : World) (j : Nat) (x y : Value) : Prop := j < w.heap.size ∧ w.cell? ⟨j, 0, none⟩ = some x ∧ w.cell? ⟨j, 1, none⟩ = some y ∧ w.frozen? ⟨j, 0, none⟩ = false ∧ w.frozen? ⟨j, 1, none⟩ = false
theorem BoxF.below {w w' : World} {j : Nat} {x y : Value} (h : BoxF w j x y) (hb : Below w.heap.size w w') : BoxF w' j x y := by
  have e := hb.block j h.1
  refine ⟨Nat.lt_of_lt_of_le h.1 hb.size, ?_, ?_, ?_, ?_⟩
  · rw [← h.2.1]; simp [World.cell?, e]
  · rw [← h.2.2.1]; simp [World.cell?, e]
  · rw [← h.2.2.2.1]; simp [World.frozen?, e]
  · rw [← h.2.2.2.2]; simp [World.frozen?, e]
theorem BoxF.grown {w w' : World} {j : Nat} {x y : Value} {row : Option Nat} (h : BoxF w j x y) (hg : w.grownBy w' row) (hne : some j ≠ row) : BoxF w' j x y := by
  have e := hg.block j h.1 hne
  refine ⟨Nat.lt_of_lt_of_le h.1 hg.size, ?_, ?_, ?_, ?_⟩
  · rw [← h.2.1]; simp [World.cell?, e]
  · rw [← h.2.2.1]; simp [World.cell?, e]
  · rw [← h.2.2.2.1]; simp [World.frozen?, e]
  · rw [← h.2.2.2.2]; simp [World.frozen?, e]
theorem BoxF.new {w W : World} {t : TypeId} {x y : Value} (hW : w.alloc (.cells #[x, y] t) = W) : BoxF W w.heap.size x y := by
  have e : W.heap[w.heap.size]? = some (.cells #[x, y] t (0, 0)) := by rw [← hW]; exact World.alloc_heap_new w _
  refine ⟨by rw [← hW]; simp, ?_, ?_, ?_, ?_⟩ <;> simp [World.cell?, World.frozen?, e]
theorem BoxF.fill {w : World} {j : Nat} {x y : Value} (u v : Value) (h : BoxF w j x y) : BoxF ((w.setCell ⟨j, 0, none⟩ u).setCell ⟨j, 1, none⟩ v) j u v := by
  obtain ⟨h0, h1, h2, h3, h4⟩ := h
  refine ⟨by simp; exact h0, ?_, ?_, ?_, ?_⟩
  · go_simp
  · go_simp
  · rw [World.frozen?_setCell, World.frozen?_setCell]; exact h3
  · rw [World.frozen?_setCell, World.frozen?_setCell]; exact h4
theorem grown_cell (w : World) (b o : Nat) (v : Value) : w.grownBy (w.setCell ⟨b, o, none⟩ v) (some b) :=
  ⟨((Below.refl 0 w).setCell (p := ⟨b, o, none⟩) (Nat.zero_le _) v).os, ((Below.refl 0 w).setCell (p := ⟨b, o, none⟩) (Nat.zero_le _) v).tape, ((Below.refl 0 w).setCell (p := ⟨b, o, none⟩) (Nat.zero_le _) v).output, ((Below.refl 0 w).setCell (p := ⟨b, o, none⟩) (Nat.zero_le _) v).size, fun i _ hne => Below.heap_setCell w ⟨b, o, none⟩ v i (fun e => hne (by rw [e]))⟩
theorem grown_cells (w : World) (b : Nat) (u v : Value) : w.grownBy ((w.setCell ⟨b, 0, none⟩ u).setCell ⟨b, 1, none⟩ v) (some b) := grownTrans (grown_cell w b 0 u) (grown_cell _ b 1 v)
theorem BoxF.other {w : World} {j B : Nat} {x y : Value} (u v : Value) (h : BoxF w j x y) (hne : j ≠ B) : BoxF ((w.setCell ⟨B, 0, none⟩ u).setCell ⟨B, 1, none⟩ v) j x y := h.grown (grown_cells w B u v) (fun e => hne (by simpa using e))
theorem row_others {w : World} {base B : Nat} {v x y : Value} {zs : List Int} (h : IntRow base w v zs) (hne : ∀ j, v.ownBlock = some j → j ≠ B) : IntRow base ((w.setCell ⟨B, 0, none⟩ x).setCell ⟨B, 1, none⟩ y) v zs := by
  unfold IntRow at h ⊢
  refine h.kept (grown_cells w B x y) ?_
  cases e : v.ownBlock with
  | none => exact .inl rfl
  | some j => exact .inr fun e2 => hne j e (by simpa using e2)

set_option maxRecDepth 100000 in
set_option maxHeartbeats 1000000 in
theorem sameIntsI_yes (a1 a2 : Option Addr) (c1 c2 n : Nat) (zs : List Int) (w : World) (h1 : Ints w a1 n zs) (h2 : Ints w a2 n zs) :
    Calls Try.prog 105 #[.slice a1 n c1, .slice a2 n c2] w fun e w' => e = .returned (.bool true) ∧ Below w.heap.size w w' := by
  have hm := h1.max
  unfold maxLen at hm
  have H1 := Lib.hid h1
  have H2 := Lib.hid h2
  clear h1 h2
  go_enter Try.func105, Try.ntmps105
  go_wp2
  go_loopw [5] (fun i wr => ∃ k : Nat, k ≤ n ∧ i = .int .i64 k ∧ Below w.heap.size w wr) (fun i _ => n - (intOf i).toNat)
  case atStart => exact ⟨0, Nat.zero_le _, rfl, Below.refl _ _⟩
  case round =>
    obtain ⟨k, hk, rfl, hB⟩ := hrel
    by_cases hlt : k < n
    · obtain ⟨z1, rfl, hb1, hc1⟩ := (H1.out.below hB).at_ (by omega)
      obtain ⟨z2, rfl, hb2, hc2⟩ := (H2.out.below hB).at_ (by omega)
      have hkz : k < zs.length := by rw [H1.out.len]; exact hlt
      obtain ⟨z, hz⟩ : ∃ z, zs[k] = z := ⟨_, rfl⟩
      have d1 := hc1 k hkz
      have d2 := hc2 k hkz
      rw [hz] at d1 d2
      clear hz hkz hc1 hc2
      go_wp2
      go_quiet (fail)
      go_wp2
      go_roundw
      case rel => exact ⟨k + 1, by omega, by go_num, below_drewN hB _⟩
      case measure => simp [intOf]; omega
    · go_wp2
      go_ret
      exact ⟨rfl, hB⟩

set_option maxRecDepth 100000 in
set_option maxHeartbeats 1000000 in
theorem samePoly_t {W : World} {a a2 : Option Addr} {n c c2 : Nat} {l : Int} {zs : List Int} (h : PIn W a n c zs) (h2 : PIn W a2 n c2 zs) :
    Calls Try.prog 34 #[plV l (.slice a n c), plV l (.slice a2 n c2)] W fun e w' => e = .returned (.bool true) ∧ Below W.heap.size W w' := by
  obtain ⟨V, hV⟩ : ∃ V, (W.alloc (.cells #[.int .i64 l, .slice a n c] 35)).alloc (.cells #[.int .i64 l, .slice a2 n c2] 35) = V := ⟨_, rfl⟩
  have hbV : Below W.heap.size W V := by rw [← hV]; exact ((Below.refl _ W).alloc (Nat.le_refl _) _).alloc (by simp) _
  have hC := twoCells hV (Below.refl _ _)
  rw [← hV] at hC
  obtain ⟨q0, q1, q2, q3⟩ := hC
  have HS := Lib.hid (sameIntsI_yes a a2 c c2 n zs V (h.is.below hbV) (h2.is.below hbV))
  have HB := Lib.hid hbV
  have HV := Lib.hid hV
  clear hV hbV h h2
  go_enter Try.func34, Try.ntmps34
  go_wp2_with fail
  rw [HV.out]
  refine HS.out.mono ?_
  rintro e w1 ⟨rfl, hb1⟩
  have HB1 := Lib.hid (HB.out.trans (hb1.mono HB.out.size))
  clear hb1 q0 q1 q2 q3
  go_wp2
  go_ret
  exact ⟨rfl, HB1.out⟩

end Go.Proofs.Ytbbkpaledlbcmaa

/- A drawn region whose last operation may break the condition that the ones ahead of it keep: the condition is asked only while something is still to come. -/

namespace Go.Proofs.Ytbbkpaledlbcmaa
open Go.RowKit

section
variable {P : Program} {Q : Exit → Act → World → Prop} {md : Region.Mode} {S : World → Prop}

/-- Whatever order; behind each operation of the head (those ahead of number n) the condition holds. -/
def wpAnyG (P : Program) (md : Region.Mode) (ops : Array Oper) (Q : Exit → Act → World → Prop) (S : World → Prop) (n : Nat) : Nat → Array Bool → Act → World → Prop
  | 0, listed, a, w => Region.ready md ops listed = [] ∧ Q .normal a w
  | fuel + 1, listed, a, w => (Region.ready md ops listed = [] → Q .normal a w) ∧
    ∀ i ∈ Region.ready md ops listed, wpOp P ops Q i (fun a' w' => (i < n → S w') ∧ wpAnyG P md ops Q S n fuel (listed.setIfInBounds i true) a' w') a w

theorem wpAny_of_G {ops : Array Oper} {n : Nat} : ∀ (fuel : Nat) (listed : Array Bool) (a : Act) (w : World), wpAnyG P md ops Q S n fuel listed a w → wpAny P md ops Q fuel listed a w
  | 0, _, _, _, h => h
  | fuel + 1, _, _, _, h => ⟨h.1, fun i hi => wpOp_mono (fun a' w' h' => wpAny_of_G fuel _ a' w' h'.2) (h.2 i hi)⟩

theorem wpAnyG_first {ops : Array Oper} {i n : Nat} {oi : Oper} {v : Value} (hi : ops[i]? = some oi) (hsel : ∀ (j : Nat) (o : Oper) cs b, ops[j]? = some o → o.op ≠ .select cs b)
    (hs : Region.sinkB md ops n = true) (hc : Region.chainB md ops n = true) (hn : n < ops.size) (hin : i < n)
    (hQ : ∀ c a w, Q (.panic c) (a.put oi.dst v) w → Q (.panic c) a w) :
    ∀ (fuel : Nat) (listed : Array Bool) (a : Act) (w : World), HeadInv md ops n listed →
      (∀ j oj, ops[j]? = some oj → j ≠ i → listed.getD j true = false → (∀ e ∈ oj.after, Region.binds md e = true → e.on ≠ i) → oi.apart ops oj = true) →
      i ∈ Region.ready md ops listed → YieldsIf P ops S oi v a → S w →
      wpAnyG P md ops Q S n fuel (listed.setIfInBounds i true) (a.put oi.dst v) w → wpAnyG P md ops Q S n (fuel + 1) listed a w := by
  intro fuel
  induction fuel with
  | zero =>
    intro listed a w _ _ hr hy hS H
    refine ⟨fun h => (by rw [h] at hr; cases hr), fun j hj => ?_⟩
    by_cases hji : j = i
    · subst hji; exact hy.wpOp hi hS ⟨fun _ => hS, H⟩
    · have := ready_mono hj hji
      rw [H.1] at this
      cases this
  | succ fuel ih =>
    intro listed a w inv hfree hr hy hS H
    refine ⟨fun h => (by rw [h] at hr; cases hr), fun j hj => ?_⟩
    have hun := (mem_ready.1 hr).1
    have hjn : j < n := Nat.lt_of_not_le fun h => tail_waits hs hc hn inv _ i rfl hin hun j h hj
    by_cases hji : j = i
    · subst hji; exact hy.wpOp hi hS ⟨fun _ => hS, H⟩
    · have h1 := H.2 j (ready_mono hj hji)
      obtain ⟨hjun, oj, hoj, hall⟩ := mem_ready.1 hj
      have hnot : ∀ e ∈ oj.after, Region.binds md e = true → e.on ≠ i := fun e he hb heq => by
        have h1 := hall e he hb
        rw [heq, getD_both hun] at h1
        cases h1
      have h2 := wpOp_putIf hoj (hfree j oj hoj hji hjun hnot) (fun cs b => hsel i oi cs b hi) (fun cs b => hsel j oj cs b hoj) hQ hy h1
      have hfree' : ∀ k ok, ops[k]? = some ok → k ≠ i → (listed.setIfInBounds j true).getD k true = false →
          (∀ e ∈ ok.after, Region.binds md e = true → e.on ≠ i) → oi.apart ops ok = true := fun k ok hk hki hu hno => by
        refine hfree k ok hk hki ?_ hno
        by_cases hjk : j = k
        · subst hjk; exact hjun
        · rw [getD_set_ne true hjk] at hu; exact hu
      refine wpOp_mono (fun a' w' h3 => ⟨fun _ => h3.2.1 hjn, ih (listed.setIfInBounds j true) a' w' (inv.set hj hjn) hfree' (ready_mono hr (Ne.symm hji)) h3.1 (h3.2.1 hjn) ?_⟩) h2
      rw [Array.setIfInBounds_comm _ _ hji]
      exact h3.2.2

/-- The state of the walk: what has come up is closed below. -/
def walkG (P : Program) (l : List Oper) (Q : Exit → Act → World → Prop) (S : World → Prop) (n fuel : Nat) (listed : Array Bool) (a : Act) (w : World) : Prop :=
  HeadInv .any l.toArray n listed → wpAnyG P .any l.toArray Q S n fuel listed a w

theorem walkG_take {l : List Oper} {i n : Nat} {oi : Oper} {v : Value} {fuel : Nat} {listed : Array Bool} {a : Act} {w : World} (hi : l[i]? = some oi)
    (hb : (Region.noSelect l.toArray && Region.sinkB .any l.toArray n && Region.chainB .any l.toArray n && decide (n < l.length) && decide (i < n)) = true)
    (hf : Region.free .any l.toArray listed i = true) (hr : (Region.ready .any l.toArray listed).contains i = true)
    (hQ : ∀ c a w, Q (.panic c) (a.put oi.dst v) w → Q (.panic c) a w) (hy : YieldsIf P l.toArray S oi v a) (hS : S w)
    (h : walkG P l Q S n fuel (listed.setIfInBounds i true) (a.put oi.dst v) w) : walkG P l Q S n (fuel + 1) listed a w := fun inv => by
  simp only [Bool.and_eq_true, decide_eq_true_eq] at hb
  obtain ⟨⟨⟨⟨h1, h2⟩, h3⟩, h4⟩, h5⟩ := hb
  have hi' : l.toArray[i]? = some oi := by simpa using hi
  have hr' : i ∈ Region.ready .any l.toArray listed := by simpa using hr
  exact wpAnyG_first hi' (Region.noSelect_spec h1) h2 h3 (by simpa using h4) h5 hQ fuel listed a w inv (Region.free_spec hi' hf) hr' hy hS (h (inv.set hr' h5))

/-- One alone may come up. -/
theorem walkG_one {l : List Oper} {i n : Nat} {o : Oper} {fuel : Nat} {listed : Array Bool} {a : Act} {w : World} (hi : l[i]? = some o) (hin : i < n)
    (hr : Region.ready .any l.toArray listed = [i])
    (h : ∀ K' : Act → World → Prop, Shut (∀ a w, S w → (S w → walkG P l Q S n fuel (listed.setIfInBounds i true) a w) → K' a w) → if Region.wanted o (yielded l.toArray a.tmps) = true then Oper.wp P o a w K' Q else K' (a.put o.dst undef) w) :
    walkG P l Q S n (fuel + 1) listed a w := fun inv => by
  refine ⟨fun h0 => (by rw [hr] at h0; cases h0), fun j hj => ?_⟩
  rw [hr] at hj
  obtain rfl : j = i := by simpa using hj
  have hi' : l.toArray[j]? = some o := by simpa using hi
  exact wpOp_step hi' (fun K' hK => h K' (fun a w hS hW => hK a w ⟨fun _ => hS, hW hS (inv.set (by rw [hr]; simp) hin)⟩))

/-- The last one. -/
theorem walkG_last {l : List Oper} {n : Nat} {o : Oper} {listed : Array Bool} {a : Act} {w : World} (hi : l[n]? = some o)
    (hr : Region.ready .any l.toArray listed = [n]) (hr2 : Region.ready .any l.toArray (listed.setIfInBounds n true) = [])
    (h : ∀ K' : Act → World → Prop, Shut (∀ a w, Q .normal a w → K' a w) → if Region.wanted o (yielded l.toArray a.tmps) = true then Oper.wp P o a w K' Q else K' (a.put o.dst undef) w) (fuel : Nat) :
    walkG P l Q S n (fuel + 1) listed a w := fun inv => by
  refine ⟨fun h0 => (by rw [hr] at h0; cases h0), fun j hj => ?_⟩
  rw [hr] at hj
  obtain rfl : j = n := by simpa using hj
  have hi' : l.toArray[j]? = some o := by simpa using hi
  refine wpOp_step hi' (fun K' hK => h K' (fun a w hq => hK a w ⟨fun h => absurd h (Nat.lt_irrefl _), ?_⟩))
  cases fuel with
  | zero => exact ⟨hr2, hq⟩
  | succ f => exact ⟨fun _ => hq, (by rw [hr2]; simp)⟩

theorem wp_region_G {id : Nat} {l : List Oper} (n : Nat) (S : World → Prop) {a : Act} {w : World} (hm : P.follows .mixedOrders = true) (hS : S w.drew)
    (h : S w.drew → walkG P l Q S n l.length (List.replicate l.length false).toArray a w.drew) : (Code.region id l.toArray true).wp P Q a w := by
  refine wp_region_any hm ?_
  have e : (List.replicate l.length false).toArray = Array.replicate l.toArray.size false := by simp
  have h' := h hS
  rw [e] at h'
  have := wpAny_of_G _ _ _ _ (h' ⟨by simp, fun j oj _ hl => (by rw [getD_replicate_false] at hl; cases hl), fun t _ ht => getD_in (by simpa using ht) (getD_replicate_false _ _)⟩)
  simpa using this
end

end Go.Proofs.Ytbbkpaledlbcmaa

/- The contracts of the model's products and commutators of words. -/

namespace Go.Proofs.Ytbbkpaledlbcmaa
open Go.RowKit

/-- What is told of letters. -/
def toldV (l : List UInt8) : Value := if l.length ≤ 60 then .tuple #[.string (bstr l), .bool true] else .tuple #[.string ByteArray.empty, .bool false]
theorem toldV_yes {l : List UInt8} (h : l.length ≤ 60) : toldV l = .tuple #[.string (bstr l), .bool true] := if_pos h
theorem toldV_no {l : List UInt8} (h : ¬ l.length ≤ 60) : toldV l = .tuple #[.string ByteArray.empty, .bool false] := if_neg h

theorem append_toList (a b : ByteArray) : (a ++ b).data.toList = a.data.toList ++ b.data.toList := by simp
theorem append_size (a b : ByteArray) : (a ++ b).size = a.size + b.size := by simp

/-- The letters of a commutator. -/
def commL (a b : List UInt8) : List UInt8 := a ++ b ++ backL a ++ backL b

end Go.Proofs.Ytbbkpaledlbcmaa

/- The contracts of the program's 'WordTimes' and 'WordComm'. -/

namespace Go.Proofs.Ytbbkpaledlbcmaa
open Go.RowKit Go.Shelf

/-- Two words out of a list of two texts. -/
theorem wordsOf_two (a b : ByteArray) (w : World) (ha : wordB a.data.toList = true) (hb : wordB b.data.toList = true) :
    Calls Try.prog 175 #[.slice (some ⟨w.heap.size, 0, none⟩) 2 2] (w.alloc (.cells #[.string a, .string b] 9)) fun e w' =>
      ∃ g ga ca gb cb, e = .returned (.tuple #[.slice (some ⟨g, 0, none⟩) 2 2, .bool true]) ∧ w'.cell? ⟨g, 0, none⟩ = some (.slice (some ⟨ga, 0, none⟩) a.size ca) ∧ w'.cell? ⟨g, 1, none⟩ = some (.slice (some ⟨gb, 0, none⟩) b.size cb) ∧ g < w'.heap.size ∧
        Hid (IsWord w'.heap.size w' (.slice (some ⟨ga, 0, none⟩) a.size ca) a.data.toList) ∧ Hid (IsWord w'.heap.size w' (.slice (some ⟨gb, 0, none⟩) b.size cb) b.data.toList) ∧ Below w.heap.size w w' := by
  have hs : a.size ≤ 60 := by have := ((wordB_iff _).1 ha).1; simpa using this
  have hs2 : b.size ≤ 60 := by have := ((wordB_iff _).1 hb).1; simpa using this
  have hcells := cell_two_new w (.string a) (.string b) 9
  refine (wordsOf_any (some ⟨w.heap.size, 0, none⟩) w.heap.size 0 2 2 [a, b] _ rfl (by omega) (fun _ => rfl) (by simp) ?_ ?_).mono ?_
  · intro i h
    have hi : i = 0 ∨ i = 1 := by simp at h; omega
    rcases hi with rfl | rfl
    · exact hcells 0 (.string a) rfl
    · exact hcells 1 (.string b) rfl
  · intro s h
    unfold maxLen
    rcases List.mem_cons.1 h with rfl | h
    · omega
    · obtain rfl := List.mem_singleton.1 h; omega
  · rintro e w' ⟨⟨_, s, h, hf⟩ | ⟨g, vals, rfl, _, hown, hv⟩, hB⟩
    · rcases List.mem_cons.1 h with rfl | h
      · rw [ha] at hf; cases hf
      · obtain rfl := List.mem_singleton.1 h; rw [hb] at hf; cases hf
    · have hl := hown.1
      match vals, hl with
      | [v0, v1], _ =>
        have h0 := hv 0 (by simp) v0 rfl
        have h1 := hv 1 (by simp) v1 rfl
        obtain ⟨ga, ca, e0⟩ := h0.slice
        obtain ⟨gb, cb, e1⟩ := h1.slice
        have i0 := h0.isWord
        have i1 := h1.isWord
        subst e0 e1
        refine ⟨g, ga, ca, gb, cb, rfl, ?_, ?_, (ownsRow_cap hown).2.2.2, ?_, ?_, ((Below.refl _ w).alloc (Nat.le_refl _) _).trans (hB.mono (by simp))⟩
        · rw [hown.cellAt 0 (by omega)]; simp
        · rw [hown.cellAt 1 (by omega)]; simp
        · have := i0; simp at this; exact this
        · have := i1; simp at this; exact this

theorem wordsOf_two_no (a b : ByteArray) (w : World) (hma : a.size ≤ maxLen) (hmb : b.size ≤ maxLen) (h : ¬ (wordB a.data.toList = true ∧ wordB b.data.toList = true)) :
    Calls Try.prog 175 #[.slice (some ⟨w.heap.size, 0, none⟩) 2 2] (w.alloc (.cells #[.string a, .string b] 9)) fun e w' =>
      e = .returned (.tuple #[.slice none 0 0, .bool false]) ∧ Below w.heap.size w w' := by
  have hcells := cell_two_new w (.string a) (.string b) 9
  refine (wordsOf_any (some ⟨w.heap.size, 0, none⟩) w.heap.size 0 2 2 [a, b] _ rfl (by omega) (fun _ => rfl) (by simp) ?_ ?_).mono ?_
  · intro i h
    have hi : i = 0 ∨ i = 1 := by simp at h; omega
    rcases hi with rfl | rfl
    · exact hcells 0 (.string a) rfl
    · exact hcells 1 (.string b) rfl
  · intro s h
    rcases List.mem_cons.1 h with rfl | h
    · exact hma
    · obtain rfl := List.mem_singleton.1 h; exact hmb
  · rintro e w' ⟨⟨he, _⟩ | ⟨g, vals, rfl, hall, _⟩, hB⟩
    · exact ⟨he, ((Below.refl _ w).alloc (Nat.le_refl _) _).trans (hB.mono (by simp))⟩
    · exact absurd ⟨hall a (by simp), hall b (by simp)⟩ h

/-- A word in a box, and the function that gives letters out of it. -/
structure Item where
  gf : Nat
  sv : Value
  L : List UInt8
  xs : List UInt8
def Gives (it : Item) : Prop :=
  (∀ (W : World) (Bs n₀ : Nat), Bs < n₀ → n₀ ≤ W.heap.size → W.cell? ⟨Bs, 0, none⟩ = some it.sv → IsWord n₀ W it.sv it.L → SeqO n₀ W it.gf #[.pointer (some ⟨Bs, 0, none⟩)] it.xs) ∧
  ∀ args w, (callFunc it.gf args).run Try.prog w = .ok (.enter it.gf args) w
theorem gives_fwd (sv : Value) (L : List UInt8) : Gives ⟨204, sv, L, L⟩ :=
  ⟨fun W Bs n₀ h1 h2 h3 h4 => values_seq L sv W Bs n₀ (by omega) h2 h3 h4, enters_of Try.func204 (by kernel_rfl) rfl⟩
theorem gives_bwd (sv : Value) (L : List UInt8) : Gives ⟨187, sv, L, L.reverse.map invB⟩ :=
  ⟨fun W Bs n₀ h1 h2 h3 h4 => turned_seq L sv W Bs n₀ h1 h2 h3 h4, enters_of Try.func187 (by kernel_rfl) rfl⟩

def boxes : World → List Item → World
  | w, [] => w
  | w, it :: r => boxes (w.alloc (.cells #[it.sv] WT)) r
def funcs : Nat → List Item → List Value
  | _, [] => []
  | k, it :: r => .func (.func it.gf) #[] #[.pointer (some ⟨k, 0, none⟩)] :: funcs (k + 1) r
def partsOf : Nat → List Item → List Part
  | _, [] => []
  | k, it :: r => ⟨it.gf, #[.pointer (some ⟨k, 0, none⟩)], it.xs⟩ :: partsOf (k + 1) r
theorem boxes_size : ∀ (its : List Item) (w : World), (boxes w its).heap.size = w.heap.size + its.length
  | [], _ => rfl
  | it :: r, w => by rw [boxes, boxes_size r]; simp; omega
theorem boxes_below : ∀ (its : List Item) (w : World), Below w.heap.size w (boxes w its)
  | [], w => Below.refl _ _
  | it :: r, w => ((Below.refl _ w).alloc (Nat.le_refl _) _).trans ((boxes_below r _).mono (by simp))
theorem partsOf_len : ∀ (its : List Item) (k : Nat), (partsOf k its).length = its.length
  | [], _ => rfl
  | it :: r, k => by simp [partsOf, partsOf_len r]
theorem funcs_get : ∀ (its : List Item) (k i : Nat) (h : i < (partsOf k its).length), (funcs k its)[i]? = some (.func (.func (partsOf k its)[i].gf) #[] (partsOf k its)[i].lb)
  | [], _, _, h => by simp [partsOf] at h
  | it :: r, k, 0, _ => rfl
  | it :: r, k, i + 1, h => by
    simp only [partsOf, List.length_cons] at h
    simpa [partsOf, funcs] using funcs_get r (k + 1) i (by omega)
theorem parts_mem : ∀ (its : List Item) (w : World) (p : Part), p ∈ partsOf w.heap.size its → ∃ it ∈ its, ∃ B, p = ⟨it.gf, #[.pointer (some ⟨B, 0, none⟩)], it.xs⟩ ∧ B < (boxes w its).heap.size ∧ (boxes w its).cell? ⟨B, 0, none⟩ = some it.sv
  | [], _, _, h => by simp [partsOf] at h
  | it :: r, w, p, h => by
    rcases List.mem_cons.1 h with rfl | h
    · refine ⟨it, by simp, w.heap.size, rfl, by rw [boxes_size]; simp, ?_⟩
      exact ((boxes_below r (w.alloc (.cells #[it.sv] WT))).cell (p := ⟨w.heap.size, 0, none⟩) (by simp)).trans (Boxed.new w WT it.sv).cell
    · have h2 : p ∈ partsOf (w.alloc (.cells #[it.sv] WT)).heap.size r := by simpa using h
      obtain ⟨it2, hm, B, hp, hB, hc⟩ := parts_mem r _ p h2
      exact ⟨it2, by simp [hm], B, hp, hB, hc⟩
theorem cat_parts : ∀ (its : List Item) (k : Nat), cat (partsOf k its) = (its.map Item.xs).flatten
  | [], _ => rfl
  | it :: r, k => by
    have := cat_parts r (k + 1)
    simp only [cat] at this ⊢
    simp only [partsOf, List.map_cons, List.flatten_cons, this]
theorem cell_past {w : World} {p : Addr} {v : Value} (h : w.cell? p = some v) (o : Obj) : (w.alloc o).cell? p = some v := (World.cell?_alloc_lt w o p (World.block_lt_of_cell? w _ h)).trans h
theorem cell_drawn {w : World} {p : Addr} {v : Value} (h : w.cell? p = some v) : w.drew.cell? p = some v := h

/-- 'reduced' over boxed words. -/
theorem reduced_boxes (w : World) (its : List Item) (hG : ∀ it ∈ its, Gives it ∧ IsWord w.heap.size w it.sv it.L) (hl : (its.map Item.xs).flatten.length ≤ 100000000) (hn : its.length ≤ 1000000) :
    Calls Try.prog 148 #[.slice (some ⟨w.heap.size + its.length, 0, none⟩) its.length its.length] ((boxes w its).alloc (.cells (funcs w.heap.size its).toArray IT)).drew fun e w' =>
      ∃ g m cap', e = .returned (.slice (some ⟨g, 0, none⟩) m cap') ∧ (redX [] (its.map Item.xs).flatten).length = m ∧ w'.ownsRow w.heap.size 153 1 (.slice (some ⟨g, 0, none⟩) m cap') m (bytesV (redX [] (its.map Item.xs).flatten)) ∧ Below w.heap.size w w' := by
  have hbw := boxes_below its w
  have hsz := boxes_size its w
  have hbW : Below w.heap.size w ((boxes w its).alloc (.cells (funcs w.heap.size its).toArray IT)).drew := (hbw.alloc (by omega) _).drew
  have hr := reduced_in 20 (by omega) (some ⟨w.heap.size + its.length, 0, none⟩) (w.heap.size + its.length) 0 its.length (partsOf w.heap.size its) ((boxes w its).alloc (.cells (funcs w.heap.size its).toArray IT)).drew (fun _ => rfl)
    (by show _ < ((boxes w its).alloc (.cells (funcs w.heap.size its).toArray IT)).heap.size; simp; omega)
    (fun i h => by
      show ((boxes w its).alloc (.cells (funcs w.heap.size its).toArray IT)).cell? _ = _
      rw [World.cell?_alloc_at _ _ _ _ (by show _ = _; omega)]
      rw [Nat.zero_add, List.getElem?_toArray]
      exact funcs_get its _ i h)
    (fun p hp => by
      obtain ⟨it, hm, B, rfl, hB, hc⟩ := parts_mem its w p hp
      obtain ⟨hg, hw⟩ := hG it hm
      refine ⟨hg.1 _ B _ ?_ (Nat.le_refl _) (cell_drawn (cell_past hc _)) ((hw.below hbW).mono ?_), hg.2⟩
      · show B < ((boxes w its).alloc (.cells (funcs w.heap.size its).toArray IT)).heap.size; simp; omega
      · show _ ≤ ((boxes w its).alloc (.cells (funcs w.heap.size its).toArray IT)).heap.size; simp; omega)
    (by rw [cat_parts]; exact hl) (by rw [partsOf_len]; exact hn)
  rw [cat_parts, partsOf_len] at hr
  refine ((callsIn_wide (n := 20)).1 hr).mono ?_
  rintro e w' ⟨g, m, cap', rfl, hm, hown, hb⟩
  have hsW : w.heap.size ≤ ((boxes w its).alloc (.cells (funcs w.heap.size its).toArray IT)).drew.heap.size := hbW.size
  exact ⟨g, m, cap', rfl, hm, ownsRow_base hown hsW, hbW.trans (hb.mono hsW)⟩

end Go.Proofs.Ytbbkpaledlbcmaa

/- The program's GroupMove and GroupJoin. -/

namespace Go.Proofs.Ytbbkpaledlbcmaa
open Go.RowKit Go.Shelf

set_option maxHeartbeats 1000000 in
theorem has_any (g cap n : Nat) (i : Int) (b : Bool) (w : World) (hb : decide (0 ≤ i ∧ i < (n : Int)) = b) :
    Calls Try.prog 147 #[.slice (some ⟨g, 0, none⟩) n cap, .int .i64 i] w fun e w' => e = .returned (.bool b) ∧ w = w' := by
  by_cases h1 : 0 ≤ i
  · by_cases h2 : i < (n : Int)
    · obtain rfl : b = true := by rw [← hb]; exact decide_eq_true ⟨h1, h2⟩
      clear hb
      go_enter Try.func147, Try.ntmps147
      go_wp2
      go_ret
      exact ⟨ret_bool (by simp), rfl⟩
    · obtain rfl : b = false := by rw [← hb]; exact decide_eq_false fun h => h2 h.2
      clear hb
      go_enter Try.func147, Try.ntmps147
      go_wp2
      go_ret
      exact ⟨ret_bool (by simp), rfl⟩
  · obtain rfl : b = false := by rw [← hb]; exact decide_eq_false fun h => h1 h.1
    clear hb
    go_enter Try.func147, Try.ntmps147
    go_wp2
    go_ret
    first | exact ⟨rfl, rfl⟩ | exact ⟨ret_bool (by simp [h1]), rfl⟩

set_option maxRecDepth 100000 in
set_option maxHeartbeats 4000000 in
theorem iGroupMove_any (low : Int) (g cap n : Nat) (zs : List ByteArray) (i : Int) (s : ByteArray) (w : World) (hs : IsStrs w (some ⟨g, 0, none⟩) n zs) (hz : s.size ≤ maxLen) :
    Calls Try.prog 81 #[plV low (.slice (some ⟨g, 0, none⟩) n cap), .int .i64 i, .string s] w (ToldG w (movedB low zs i s) ⟨low, mvZ zs i s⟩) := by
  have hmx : Try.prog.follows .mixedOrders = true := by kernel_rfl
  have hm := hs.max
  unfold maxLen at hm
  obtain ⟨W, hW⟩ : ∃ W, (w.alloc (.cells #[.int .i64 low, .slice (some ⟨g, 0, none⟩) n cap] 64)).alloc (.cells #[.int .i64 0, .slice none 0 0] 64) = W := ⟨_, rfl⟩
  obtain ⟨hbW, hsz2⟩ := boxes2Below hW
  have HC : Hid (∀ w1, Below W.heap.size W w1 → _) := Lib.hid fun w1 (hg : Below W.heap.size W w1) => boxes2 hW hg
  obtain ⟨⟨k0, k1⟩, _⟩ := boxes2 hW (Below.refl _ _)
  obtain ⟨bg, hbg⟩ : ∃ bg, groupB low zs = bg := ⟨_, rfl⟩
  have HGO := Lib.hid (groupOf_any low g cap n zs bg W (hs.below hbW) hbg)
  have HN := Lib.hid hs.len
  have HBG := Lib.hid hbg
  have HBW := Lib.hid hbW
  have HW := Lib.hid hW
  have HSZ := Lib.hid hsz2
  have HNO : Hid (∀ w1, Below W.heap.size W w1 → movedB low zs i s = false → ToldG w (movedB low zs i s) ⟨low, mvZ zs i s⟩ (.returned (.tuple #[plV 0 (.slice none 0 0), .bool false])) ((w1.setCell ⟨w.heap.size + 1, 0, none⟩ (.int .i64 0)).setCell ⟨w.heap.size + 1, 1, none⟩ (.slice none 0 0))) := Lib.hid fun w1 h1 e =>
    ToldG.no e (((hbW.trans (h1.mono hbW.size)).setCell (p := ⟨w.heap.size + 1, 0, none⟩) (by show w.heap.size ≤ w.heap.size + 1; omega) _).setCell (p := ⟨w.heap.size + 1, 1, none⟩) (by show w.heap.size ≤ w.heap.size + 1; omega) _)
  rw [← hW] at k0 k1
  clear hs hbg hW hbW hsz2
  go_enter Try.func81, Try.ntmps81
  go_wp2_with fail
  rw [HW.out]
  refine HGO.out.mono ?_
  rintro e w1 ⟨⟨rfl, rfl⟩ | ⟨rfl, g2, vs, rfl, hrel⟩, hb1⟩
  · have HB1 := Lib.hid (hb1.alloc hb1.size (.cells #[.int .i64 0, .slice none 0 0] 137))
    clear hb1 k0 k1
    cases hw : wordB s.data.toList with
    | true =>
      have HWD := Lib.hid hw
      clear hw
      go_wp2_with fail
      refine (wordOf_yes s _ HWD.out).mono ?_
      rintro e w2 ⟨gm, cm, rfl, _, hb2⟩
      have HB2 := Lib.hid (HB1.out.trans (hb2.mono HB1.out.size))
      clear hb2
      have HF : Hid (movedB low zs i s = false) := Lib.hid (by unfold movedB; rw [HBG.out]; rfl)
      obtain ⟨_, d0, d1, f0, f1⟩ := HC.out _ HB2.out
      go_wp2
      refine bodyPost_ret (v := .tuple #[plV 0 (.slice none 0 0), .bool false]) ?_ rfl (HNO.out _ HB2.out HF.out)
      simp [results, Try.results81, go_sem, d0, d1, plV]
    | false =>
      have HWD := Lib.hid hw
      clear hw
      go_wp2_with fail
      refine (wordOf_no s _ hz HWD.out).mono ?_
      rintro e w2 ⟨rfl, hb2⟩
      have HB2 := Lib.hid (HB1.out.trans (hb2.mono HB1.out.size))
      clear hb2
      have HF : Hid (movedB low zs i s = false) := Lib.hid (by unfold movedB; rw [HBG.out]; rfl)
      obtain ⟨_, d0, d1, f0, f1⟩ := HC.out _ HB2.out
      go_wp2
      refine bodyPost_ret (v := .tuple #[plV 0 (.slice none 0 0), .bool false]) ?_ rfl (HNO.out _ HB2.out HF.out)
      simp [results, Try.results81, go_sem, d0, d1, plV]
  obtain ⟨V1, hV1⟩ : ∃ V, w1.alloc (.cells #[.int .i64 low, .slice (some ⟨g2, 0, none⟩) zs.length zs.length] 137) = V := ⟨_, rfl⟩
  have hbV1 : Below w1.heap.size w1 V1 := by rw [← hV1]; exact (Below.refl _ _).alloc (Nat.le_refl _) _
  have hX := boxNew hV1
  rw [HN.out] at hX hV1 ⊢
  have hlt2 := hrel.lt
  have HREL := Lib.hid (hrel.below hbV1)
  have HX := Lib.hid hX
  have HB1 := Lib.hid (hb1.trans (hbV1.mono hb1.size))
  have hmne1 : ¬ w1.heap.size = g2 := by omega
  have hmne2 : ¬ g2 = w1.heap.size := by omega
  have hmr1 : ¬ g2 = w.heap.size + 1 := by have := HSZ.out; omega
  have hmr2 : ¬ w.heap.size + 1 = g2 := by have := HSZ.out; omega
  have HGE := Lib.hid hlt2.1
  have HV1 := Lib.hid hV1
  have hrelG := groupB_iff.1 HBG.out
  have hn4 : n ≤ 4 := by have h1 := hrelG.2.1; have h2 := HN.out; omega
  have HRG := Lib.hid hrelG
  clear hrel hb1 hbV1 hX hV1 hlt2 k0 k1 hrelG
  cases hw : wordB s.data.toList with
  | false =>
    have HWD := Lib.hid hw
    clear hw
    go_wp2_with fail
    rw [HV1.out]
    refine (wordOf_no s _ hz HWD.out).mono ?_
    rintro e w2 ⟨rfl, hb2⟩
    have HB2 := Lib.hid (HB1.out.trans (hb2.mono HB1.out.size))
    clear hb2
    have HF : Hid (movedB low zs i s = false) := Lib.hid (by unfold movedB; rw [HBG.out, HWD.out, Bool.false_and, Bool.and_false]; rfl)
    obtain ⟨_, d0, d1, f0, f1⟩ := HC.out _ HB2.out
    go_wp2
    refine bodyPost_ret (v := .tuple #[plV 0 (.slice none 0 0), .bool false]) ?_ rfl (HNO.out _ HB2.out HF.out)
    simp [results, Try.results81, go_sem, d0, d1, plV]
  | true =>
  have HWD := Lib.hid hw
  clear hw
  go_wp2_with fail
  rw [HV1.out]
  refine (wordOf_yes s _ HWD.out).mono ?_
  rintro e w2 ⟨gm, cm, rfl, hown2, hb2⟩
  have hs60 : s.size ≤ 60 := by have := ((wordB_iff _).1 HWD.out).1; simpa using this
  have HMW := Lib.hid (isWord_of_owns (n₀ := w2.heap.size) (l := s.data.toList) (by simp) (by omega) hown2 (Nat.le_refl _))
  have HB2 := Lib.hid (HB1.out.trans (hb2.mono HB1.out.size))
  have HX := Lib.hid (HX.out.below hb2)
  have HREL := Lib.hid (HREL.out.below hb2)
  have q0 := HX.out.2.1
  have q1 := HX.out.2.2
  clear hown2 hb2
  cases hi : hasB zs i with
  | false =>
    have HI := Lib.hid hi
    have HHI : Hid (decide (0 ≤ i ∧ i < (n : Int)) = false) := Lib.hid (by rw [← HN.out]; exact hi)
    clear hi
    go_wp2_with fail
    refine (has_any g2 n n i false _ HHI.out).mono ?_
    rintro e w3 ⟨rfl, rfl⟩
    clear q0 q1
    have HF : Hid (movedB low zs i s = false) := Lib.hid (by unfold movedB; rw [HBG.out, HI.out]; rfl)
    obtain ⟨_, d0, d1, f0, f1⟩ := HC.out _ HB2.out
    go_wp2
    refine bodyPost_ret (v := .tuple #[plV 0 (.slice none 0 0), .bool false]) ?_ rfl (HNO.out _ HB2.out HF.out)
    simp [results, Try.results81, go_sem, d0, d1, plV]
  | true =>
  have HI := Lib.hid hi
  have HHI : Hid (decide (0 ≤ i ∧ i < (n : Int)) = true) := Lib.hid (by rw [← HN.out]; exact hi)
  obtain ⟨j, rfl, hj⟩ := hasB_nat hi
  have hjn : j < n := by have := HN.out; omega
  clear hi
  go_wp2_with fail
  refine (has_any g2 n n (j : Int) true _ HHI.out).mono ?_
  rintro e w3 ⟨rfl, rfl⟩
  have hjv : j < vs.length := by have := HREL.out.len; omega
  have hcz := HREL.out.cell j hjv
  have hwz := HREL.out.word hjv
  obtain ⟨r, hr⟩ : ∃ r, zs[j] = r := ⟨_, rfl⟩
  have hgd : zs.getD j ByteArray.empty = r := by rw [List.getD_eq_getElem?_getD, List.getElem?_eq_getElem hj]; exact hr
  have hrW : wordB r.data.toList = true := by rw [← hr]; exact (HRG.out.2.2 _ (List.getElem_mem hj)).1
  rw [hgd] at hwz
  obtain ⟨gj, cj, hvj⟩ := hwz.slice
  have hwi := hwz.isWord
  rw [hvj] at hcz hwi
  obtain ⟨lj, hlj⟩ : ∃ l, r.data.toList.length = l := ⟨_, rfl⟩
  rw [hlj] at hcz hwi
  obtain ⟨R, hR⟩ : ∃ R, redL [] (s.data.toList ++ r.data.toList ++ backL s.data.toList) = R := ⟨_, rfl⟩
  have HR : Hid (redX [] (s.data.toList ++ (r.data.toList ++ (s.data.toList.reverse.map invB ++ []))) = R) := Lib.hid (by
    obtain ⟨_, p2, _⟩ := (wordB_iff _).1 hrW
    obtain ⟨_, p3, _⟩ := (wordB_iff _).1 HWD.out
    rw [List.append_nil, inv_back _ p3, redX_eq _ _ (by rw [letL_append, letL_append, p3, p2, letL_back _ p3]; rfl), ← List.append_assoc]; exact hR)
  have hl60 : r.data.toList.length ≤ 60 := ((wordB_iff _).1 hrW).1
  have hl602 : s.data.toList.length ≤ 60 := ((wordB_iff _).1 HWD.out).1
  have hRl : R.length ≤ 1000 := by have h1 := redL_len (s.data.toList ++ r.data.toList ++ backL s.data.toList) []; rw [hR, List.length_append, List.length_append, backL_length, List.length_nil] at h1; omega
  have hrd := reduced_boxes w2 [⟨204, .slice (some ⟨gm, 0, none⟩) s.size cm, s.data.toList, s.data.toList⟩, ⟨204, .slice (some ⟨gj, 0, none⟩) lj cj, r.data.toList, r.data.toList⟩, ⟨187, .slice (some ⟨gm, 0, none⟩) s.size cm, s.data.toList, s.data.toList.reverse.map invB⟩]
    (fun it hit => by
      rcases List.mem_cons.1 hit with rfl | hit
      · exact ⟨gives_fwd _ _, HMW.out⟩
      · rcases List.mem_cons.1 hit with rfl | hit
        · exact ⟨gives_fwd _ _, hwi⟩
        · obtain rfl := List.mem_singleton.1 hit; exact ⟨gives_bwd _ _, HMW.out⟩) (by simp only [List.map_cons, List.map_nil, List.flatten_cons, List.flatten_nil, List.length_append, List.length_nil, List.length_map, List.length_reverse]; omega) (by simp)
  simp only [List.map_cons, List.map_nil, List.flatten_cons, List.flatten_nil, HR.out] at hrd
  have HRd := Lib.hid hrd
  have HSC : Hid (∀ V, Below w2.heap.size w2 V → V.cell? ⟨w1.heap.size, 0, none⟩ = some (.int .i64 low) ∧ V.cell? ⟨w1.heap.size, 1, none⟩ = some (.slice (some ⟨g2, 0, none⟩) n n) ∧ V.cell? ⟨g2, j, none⟩ = some (.slice (some ⟨gj, 0, none⟩) lj cj)) := Lib.hid fun V hV => ⟨(HX.out.below hV).2.1, (HX.out.below hV).2.2, (hV.cell (p := ⟨g2, j, none⟩) HREL.out.lt.2).trans hcz⟩
  have hx : mvS zs (j : Int) s = bstr R := by unfold mvS; rw [show ((j : Int)).toNat = j from rfl, hgd, hR]
  have hZ : mvZ zs (j : Int) s = zs.set j (bstr R) := by unfold mvZ; rw [hx]; rfl
  obtain ⟨b, hb⟩ : ∃ b, groupB low (zs.set j (bstr R)) = b := ⟨_, rfl⟩
  have HBE : Hid (movedB low zs (j : Int) s = b) := Lib.hid (by unfold movedB; rw [HBG.out, HI.out, HWD.out, hZ, hb]; rfl)
  have HZ := Lib.hid hZ
  have HRL := Lib.hid hRl
  have HB := Lib.hid hb
  have HVJ := Lib.hid hvj
  have HBk := Lib.hid (Below.refl w2.heap.size w2).drew
  have hS0 := HSC.out _ HBk.out
  clear hcz hwz hr hgd hwi hlj hR hrd hx hZ hb hRl hvj hl60 hl602 q0 q1 hrW
  go_upto_region 5 with fail
  refine wp_region_G 16 (fun w' : World => w'.cell? ⟨w1.heap.size, 0, none⟩ = some (.int .i64 low) ∧ w'.cell? ⟨w1.heap.size, 1, none⟩ = some (.slice (some ⟨g2, 0, none⟩) n n) ∧ w'.cell? ⟨g2, j, none⟩ = some (.slice (some ⟨gj, 0, none⟩) lj cj)) hmx hS0 ?hW0
  intro hHeld
  simp only [List.length_cons, List.length_nil, List.replicate]
  refine walkG_take (i := 0) (v := ?v0) rfl (by kernel_rfl) (by kernel_rfl) (by kernel_rfl) (fun _ _ _ h => h) (Or.inl ⟨by rfl, ?hy0⟩) (by assumption) ?rest0
  case hy0 =>
    intro w hSw
    (try dsimp only at hSw)
    go_simp
    (try with_reducible rfl)
  try simp only [Act.put, List.setIfInBounds_toArray, List.set_cons_zero, List.set_cons_succ]
  refine walkG_take (i := 1) (v := ?v1) rfl (by kernel_rfl) (by kernel_rfl) (by kernel_rfl) (fun _ _ _ h => h) (Or.inl ⟨by rfl, ?hy1⟩) (by assumption) ?rest1
  case hy1 =>
    intro w hSw
    (try dsimp only at hSw)
    go_simp
    (try with_reducible rfl)
  try simp only [Act.put, List.setIfInBounds_toArray, List.set_cons_zero, List.set_cons_succ]
  refine walkG_take (i := 2) (v := ?v2) rfl (by kernel_rfl) (by kernel_rfl) (by kernel_rfl) (fun _ _ _ h => h) (Or.inl ⟨by rfl, ?hy2⟩) (by assumption) ?rest2
  case hy2 =>
    intro w hSw
    (try dsimp only at hSw)
    go_simp
    (try with_reducible rfl)
  try simp only [Act.put, List.setIfInBounds_toArray, List.set_cons_zero, List.set_cons_succ]
  refine walkG_take (i := 3) (v := ?v3) rfl (by kernel_rfl) (by kernel_rfl) (by kernel_rfl) (fun _ _ _ h => h) (Or.inl ⟨by rfl, ?hy3⟩) (by assumption) ?rest3
  case hy3 =>
    intro w hSw
    (try dsimp only at hSw)
    go_simp
    (try with_reducible rfl)
  try simp only [Act.put, List.setIfInBounds_toArray, List.set_cons_zero, List.set_cons_succ]
  refine walkG_take (i := 5) (v := ?v5) rfl (by kernel_rfl) (by kernel_rfl) (by kernel_rfl) (fun _ _ _ h => h) (Or.inl ⟨by rfl, ?hy5⟩) (by assumption) ?rest5
  case hy5 =>
    intro w hSw
    (try dsimp only at hSw)
    go_simp
    (try with_reducible rfl)
  try simp only [Act.put, List.setIfInBounds_toArray, List.set_cons_zero, List.set_cons_succ]
  refine walkG_take (i := 6) (v := ?v6) rfl (by kernel_rfl) (by kernel_rfl) (by kernel_rfl) (fun _ _ _ h => h) (Or.inl ⟨by rfl, ?hy6⟩) (by assumption) ?rest6
  case hy6 =>
    intro w hSw
    (try dsimp only at hSw)
    go_simp
    (try with_reducible rfl)
  try simp only [Act.put, List.setIfInBounds_toArray, List.set_cons_zero, List.set_cons_succ]
  refine walkG_take (i := 7) (v := ?v7) rfl (by kernel_rfl) (by kernel_rfl) (by kernel_rfl) (fun _ _ _ h => h) (Or.inl ⟨by rfl, ?hy7⟩) (by assumption) ?rest7
  case hy7 =>
    intro w hSw
    (try dsimp only at hSw)
    go_simp
    (try with_reducible rfl)
  try simp only [Act.put, List.setIfInBounds_toArray, List.set_cons_zero, List.set_cons_succ]
  refine walkG_take (i := 8) (v := ?v8) rfl (by kernel_rfl) (by kernel_rfl) (by kernel_rfl) (fun _ _ _ h => h) (Or.inl ⟨by rfl, ?hy8⟩) (by assumption) ?rest8
  case hy8 =>
    intro w hSw
    (try dsimp only at hSw)
    go_simp
    (try with_reducible rfl)
  try simp only [Act.put, List.setIfInBounds_toArray, List.set_cons_zero, List.set_cons_succ]
  refine walkG_take (i := 9) (v := ?v9) rfl (by kernel_rfl) (by kernel_rfl) (by kernel_rfl) (fun _ _ _ h => h) (Or.inl ⟨by rfl, ?hy9⟩) (by assumption) ?rest9
  case hy9 =>
    intro w hSw
    (try dsimp only at hSw)
    go_simp
    (try with_reducible rfl)
  try simp only [Act.put, List.setIfInBounds_toArray, List.set_cons_zero, List.set_cons_succ]
  refine walkG_take (i := 11) (v := ?v11) rfl (by kernel_rfl) (by kernel_rfl) (by kernel_rfl) (fun _ _ _ h => h) (Or.inl ⟨by rfl, ?hy11⟩) (by assumption) ?rest11
  case hy11 =>
    intro w hSw
    (try dsimp only at hSw)
    go_simp
    (try with_reducible rfl)
  try simp only [Act.put, List.setIfInBounds_toArray, List.set_cons_zero, List.set_cons_succ]
  refine walkG_one (i := 4) rfl (by decide) (by kernel_rfl) (fun K hK => ?_)
  go_simp
  refine (letters_fwd _ _ _ 1 _ (by decide)).mono ?_
  rintro e V5 ⟨rfl, rfl⟩
  go_wp2_with fail
  have HBk1 := Lib.hid (HBk.out.alloc HBk.out.size (.cells #[.slice (some ⟨gm, 0, none⟩) s.size cm] WT))
  refine hK.out _ _ (HSC.out _ HBk1.out) (fun hHeld1 => ?_)
  clear hK K hHeld
  try simp only [List.setIfInBounds_toArray, List.set_cons_zero, List.set_cons_succ]
  refine walkG_one (i := 10) rfl (by decide) (by kernel_rfl) (fun K hK => ?_)
  go_simp
  refine (letters_fwd _ _ _ 1 _ (by decide)).mono ?_
  rintro e V6 ⟨rfl, rfl⟩
  go_wp2_with fail
  have HBk2 := Lib.hid (HBk1.out.alloc HBk1.out.size (.cells #[.slice (some ⟨gj, 0, none⟩) lj cj] WT))
  refine hK.out _ _ (HSC.out _ HBk2.out) (fun hHeld2 => ?_)
  clear hK K hHeld1
  try simp only [List.setIfInBounds_toArray, List.set_cons_zero, List.set_cons_succ]
  refine walkG_one (i := 12) rfl (by decide) (by kernel_rfl) (fun K hK => ?_)
  go_simp
  refine (iTurned_any _ _ _ _).mono ?_
  rintro e V7 ⟨rfl, rfl⟩
  go_wp2_with fail
  have HBk3 := Lib.hid (HBk2.out.alloc HBk2.out.size (.cells #[.slice (some ⟨gm, 0, none⟩) s.size cm] WT))
  refine hK.out _ _ (HSC.out _ HBk3.out) (fun hHeld3 => ?_)
  clear hK K hHeld2
  try simp only [List.setIfInBounds_toArray, List.set_cons_zero, List.set_cons_succ]
  refine walkG_one (i := 13) rfl (by decide) (by kernel_rfl) (fun K hK => ?_)
  go_simp
  refine hK.out _ _ (HSC.out _ (HBk3.out.alloc HBk3.out.size _)) (fun hHeld4 => ?_)
  clear hK K hHeld3
  try simp only [List.setIfInBounds_toArray, List.set_cons_zero, List.set_cons_succ]
  refine walkG_one (i := 14) rfl (by decide) (by kernel_rfl) (fun K hK => ?_)
  go_simp
  refine HRd.out.mono ?_
  rintro e w4 ⟨g4, m4, c4, rfl, hm4, hown4, hb4⟩
  go_wp2_with fail
  have HM4 := Lib.hid hm4
  have HO4 := Lib.hid hown4
  have HB4 := Lib.hid hb4
  have HREL4 := Lib.hid (HREL.out.below hb4)
  have HX4 := Lib.hid (HX.out.below hb4)
  refine hK.out _ _ (HSC.out _ hb4) (fun hHeld5 => ?_)
  clear hK K hHeld4 hm4 hown4 hb4
  try simp only [List.setIfInBounds_toArray, List.set_cons_zero, List.set_cons_succ]
  refine walkG_take (i := 15) (v := ?v15) rfl (by kernel_rfl) (by kernel_rfl) (by kernel_rfl) (fun _ _ _ h => h) (Or.inl ⟨by rfl, ?hy15⟩) (by assumption) ?rest15
  case hy15 =>
    intro w hSw
    (try dsimp only at hSw)
    go_simp
    (try with_reducible rfl)
  try simp only [Act.put, List.setIfInBounds_toArray, List.set_cons_zero, List.set_cons_succ]
  have hz4 := HREL4.out.cell j hjv
  rw [HVJ.out] at hz4
  have hf4 := HREL4.out.row.frozenAt j
  refine walkG_last rfl (by kernel_rfl) (by kernel_rfl) (fun K hK => ?_) _
  go_simp
  refine hK.out _ _ ?_
  clear hK K hHeld5
  obtain ⟨W5, hW5⟩ : ∃ X, w4.setCell ⟨g2, j, none⟩ (.slice (some ⟨g4, 0, none⟩) m4 c4) = X := ⟨_, rfl⟩
  have hws : WsAt W5 g2 (vs.set j (.slice (some ⟨g4, 0, none⟩) m4 c4)) ((zs.map fun z => z.data.toList).set j R) := by
    have hst := HREL4.out.row.stored j (.slice (some ⟨g4, 0, none⟩) m4 c4)
    rw [hW5] at hst
    have hlen : (vs.set j (.slice (some ⟨g4, 0, none⟩) m4 c4)).length = zs.length := by rw [List.length_set]; exact HREL4.out.len
    have hsz5 : W5.heap.size = w4.heap.size := by rw [← hW5]; simp
    have hg4 : w2.heap.size ≤ g4 ∧ g4 < w4.heap.size := ⟨own_ge HO4.out g4 rfl, own_lt HO4.out g4 rfl⟩
    have hg2l := HREL.out.lt.2
    have hoff : ∀ b o, b ≠ g2 → W5.cell? ⟨b, o, none⟩ = w4.cell? ⟨b, o, none⟩ := fun b o hne => by
      rw [← hW5]
      exact World.cell?_of_block (a := ⟨b, o, none⟩) (Below.heap_setCell w4 ⟨g2, j, none⟩ _ b hne)
    refine ⟨by rw [hlen, List.length_set, List.length_map], by rw [hsz5]; exact HREL4.out.lt.2, fun t ht => ?_, fun t ht ht2 => ?_⟩
    · rw [hlen] at ht
      rw [hst.1.cellAt t (by omega)]
      exact List.getElem?_eq_getElem (by rw [hlen]; exact ht)
    · by_cases e : t = j
      · subst e
        simp only [List.getElem_set_self]
        have hw := isWord_of_owns (n₀ := w4.heap.size) (l := R) HM4.out (by have := HRL.out; have := HM4.out; omega) HO4.out (Nat.le_refl _)
        obtain ⟨g, off, cap, e1, h1, h2, h3⟩ := hw
        simp only [Value.slice.injEq, Option.some.injEq, Addr.mk.injEq] at e1
        obtain ⟨⟨rfl, rfl, _⟩, e2, rfl⟩ := e1
        exact ⟨g4, 0, c4, by rw [e2], by rw [hsz5]; exact h1, h2, fun k hk => (hoff g4 (0 + k) (by omega)).trans (h3 k hk)⟩
      · rw [List.length_set, List.length_map] at ht2
        simp only [List.getElem_set_ne (Ne.symm e), List.getElem_map]
        have htv : t < vs.length := by have := HREL4.out.len; omega
        have hw := HREL4.out.word htv
        have e2 : zs.getD t ByteArray.empty = zs[t] := by rw [List.getD_eq_getElem?_getD, List.getElem?_eq_getElem ht2]; rfl
        rw [e2] at hw
        obtain ⟨g, cap, e1, h1, h2, h3, h4⟩ := hw
        rw [e1]
        refine ⟨g, 0, cap, rfl, by rw [hsz5]; exact h2, by omega, fun k hk => ?_⟩
        have hne : g ≠ g2 := fun e3 => by
          have h5 := h4 0 (by omega)
          have h6 := HREL4.out.cell 0 (by omega)
          have h7 := HREL4.out.word (j := 0) (by omega)
          obtain ⟨_, _, e7⟩ := h7.slice
          rw [e3, h6, e7] at h5
          cases h5
        rw [Nat.zero_add]
        exact (hoff g k hne).trans (h4 k hk)
  have hB5 : Below W.heap.size W W5 := by
    rw [← hW5]
    exact (HB2.out.trans (HB4.out.mono HB2.out.size)).setCell (p := ⟨g2, j, none⟩) HGE.out _
  have hbm : ((zs.map fun z => z.data.toList).set j R).map bstr = zs.set j (bstr R) := by
    rw [List.map_set, List.map_map]
    congr 1
    refine (List.map_congr_left fun z _ => ?_).trans (List.map_id _)
    exact bstr_of z
  have HTO := Lib.hid (toldG_any low g2 n n _ _ b W5 hws (by rw [List.length_set, List.length_map]; exact HN.out) (by omega) (fun l hl => by
    rcases List.mem_or_eq_of_mem_set hl with h | h
    · obtain ⟨z, hz, rfl⟩ := List.mem_map.1 h
      have := ((wordB_iff _).1 (HRG.out.2.2 z hz).1).1
      omega
    · rw [h]; have := HRL.out; omega) (by rw [hbm]; exact HB.out))
  rw [hbm] at HTO
  have HB5 := Lib.hid hB5
  have HW5 := Lib.hid hW5
  have q0 := HX4.out.2.1
  have q1 := HX4.out.2.2
  clear hws hB5 hbm hW5 hz4 hf4
  go_wp2_with fail
  rw [HW5.out]
  refine HTO.out.mono ?_
  rintro e w6 ⟨⟨v, rfl, hgr⟩, hb6⟩
  obtain ⟨D, hD⟩ : ∃ D, doneG b ⟨low, zs.set j (bstr R)⟩ = D := ⟨_, rfl⟩
  rw [hD] at hgr ⊢
  obtain ⟨aq, _, cq, rfl, _⟩ := hgr.shape
  obtain ⟨L, hL⟩ : ∃ L, D.cs.length = L := ⟨_, rfl⟩
  rw [hL] at hgr ⊢
  have HGR := Lib.hid hgr
  have HB6 := Lib.hid (HB5.out.trans (hb6.mono HB5.out.size))
  obtain ⟨_, d0, d1, f0, f1⟩ := HC.out w6 HB6.out
  have HFIN : Hid (ToldG w (movedB low zs (j : Int) s) ⟨low, mvZ zs (j : Int) s⟩ (.returned (.tuple #[plV D.low (.slice aq L cq), .bool b])) ((w6.setCell ⟨w.heap.size + 1, 0, none⟩ (.int .i64 D.low)).setCell ⟨w.heap.size + 1, 1, none⟩ (.slice aq L cq))) := Lib.hid (by
    rw [HBE.out, HZ.out]
    have h2 := HSZ.out
    have h3 := HB5.out.size
    have hk : ∀ k, (Value.slice aq L cq).ownBlock = some k → w.heap.size + 1 < k := fun k e => by have h1 := own_ge hgr.1 k e; omega
    exact ⟨⟨_, by rw [hD], by rw [hD]; exact ((hgr.mono (by omega)).set hk).set hk⟩, ((HBW.out.trans (HB6.out.mono HBW.out.size)).setCell (p := ⟨w.heap.size + 1, 0, none⟩) (by show w.heap.size ≤ w.heap.size + 1; omega) _).setCell (p := ⟨w.heap.size + 1, 1, none⟩) (by show w.heap.size ≤ w.heap.size + 1; omega) _⟩)
  clear hD hL hgr hb6 q0 q1
  go_wp2
  refine bodyPost_ret (v := .tuple #[plV D.low (.slice aq L cq), .bool b]) ?_ rfl HFIN.out
  simp [results, Try.results81, go_sem, d0, d1, plV]

set_option maxRecDepth 100000 in
set_option maxHeartbeats 4000000 in
theorem iGroupJoin_any (low : Int) (g cap n : Nat) (zs : List ByteArray) (i k : Int) (w : World) (hs : IsStrs w (some ⟨g, 0, none⟩) n zs) :
    Calls Try.prog 84 #[plV low (.slice (some ⟨g, 0, none⟩) n cap), .int .i64 i, .int .i64 k] w (ToldG w (joinedB low zs i k) ⟨low, jnZ zs i k⟩) := by
  have hmx : Try.prog.follows .mixedOrders = true := by kernel_rfl
  have hm := hs.max
  unfold maxLen at hm
  obtain ⟨W, hW⟩ : ∃ W, (w.alloc (.cells #[.int .i64 low, .slice (some ⟨g, 0, none⟩) n cap] 64)).alloc (.cells #[.int .i64 0, .slice none 0 0] 64) = W := ⟨_, rfl⟩
  obtain ⟨hbW, hsz2⟩ := boxes2Below hW
  have HC : Hid (∀ w1, Below W.heap.size W w1 → _) := Lib.hid fun w1 (hg : Below W.heap.size W w1) => boxes2 hW hg
  obtain ⟨⟨k0, k1⟩, _⟩ := boxes2 hW (Below.refl _ _)
  obtain ⟨bg, hbg⟩ : ∃ bg, groupB low zs = bg := ⟨_, rfl⟩
  have HGO := Lib.hid (groupOf_any low g cap n zs bg W (hs.below hbW) hbg)
  have HN := Lib.hid hs.len
  have HBG := Lib.hid hbg
  have HBW := Lib.hid hbW
  have HW := Lib.hid hW
  have HSZ := Lib.hid hsz2
  have HNO : Hid (∀ w1, Below W.heap.size W w1 → joinedB low zs i k = false → ToldG w (joinedB low zs i k) ⟨low, jnZ zs i k⟩ (.returned (.tuple #[plV 0 (.slice none 0 0), .bool false])) ((w1.setCell ⟨w.heap.size + 1, 0, none⟩ (.int .i64 0)).setCell ⟨w.heap.size + 1, 1, none⟩ (.slice none 0 0))) := Lib.hid fun w1 h1 e =>
    ToldG.no e (((hbW.trans (h1.mono hbW.size)).setCell (p := ⟨w.heap.size + 1, 0, none⟩) (by show w.heap.size ≤ w.heap.size + 1; omega) _).setCell (p := ⟨w.heap.size + 1, 1, none⟩) (by show w.heap.size ≤ w.heap.size + 1; omega) _)
  rw [← hW] at k0 k1
  clear hs hbg hW hbW hsz2
  go_enter Try.func84, Try.ntmps84
  go_wp2_with fail
  rw [HW.out]
  refine HGO.out.mono ?_
  rintro e w1 ⟨⟨rfl, rfl⟩ | ⟨rfl, g2, vs, rfl, hrel⟩, hb1⟩
  · clear k0 k1
    have HB1 := Lib.hid (hb1.alloc hb1.size (.cells #[.int .i64 0, .slice none 0 0] 137))
    clear hb1
    have HF : Hid (joinedB low zs i k = false) := Lib.hid (by unfold joinedB; rw [HBG.out]; rfl)
    obtain ⟨_, d0, d1, f0, f1⟩ := HC.out _ HB1.out
    go_wp2
    refine bodyPost_ret (v := .tuple #[plV 0 (.slice none 0 0), .bool false]) ?_ rfl (HNO.out _ HB1.out HF.out)
    simp [results, Try.results84, go_sem, d0, d1, plV]
  obtain ⟨V1, hV1⟩ : ∃ V, w1.alloc (.cells #[.int .i64 low, .slice (some ⟨g2, 0, none⟩) zs.length zs.length] 137) = V := ⟨_, rfl⟩
  have hbV1 : Below w1.heap.size w1 V1 := by rw [← hV1]; exact (Below.refl _ _).alloc (Nat.le_refl _) _
  have hX := boxNew hV1
  rw [HN.out] at hX hV1 ⊢
  have hlt2 := hrel.lt
  have HREL := Lib.hid (hrel.below hbV1)
  have HX := Lib.hid hX
  have HB1 := Lib.hid (hb1.trans (hbV1.mono hb1.size))
  have hmne1 : ¬ w1.heap.size = g2 := by omega
  have hmne2 : ¬ g2 = w1.heap.size := by omega
  have hmr1 : ¬ g2 = w.heap.size + 1 := by have := HSZ.out; omega
  have hmr2 : ¬ w.heap.size + 1 = g2 := by have := HSZ.out; omega
  have HGE := Lib.hid hlt2.1
  have HV1 := Lib.hid hV1
  have hrelG := groupB_iff.1 HBG.out
  have hn4 : n ≤ 4 := by have h1 := hrelG.2.1; have h2 := HN.out; omega
  have HRG := Lib.hid hrelG
  clear hrel hb1 hbV1 hX hV1 hlt2 k0 k1 hrelG
  have q0 := HX.out.2.1
  have q1 := HX.out.2.2
  rw [← HV1.out] at q0 q1
  cases hi : hasB zs i with
  | false =>
    have HI := Lib.hid hi
    have HHI : Hid (decide (0 ≤ i ∧ i < (n : Int)) = false) := Lib.hid (by rw [← HN.out]; exact hi)
    clear hi
    go_wp2_with fail
    rw [HV1.out]
    refine (has_any g2 n n i false _ HHI.out).mono ?_
    rintro e w3 ⟨rfl, rfl⟩
    clear q0 q1
    have HF : Hid (joinedB low zs i k = false) := Lib.hid (by unfold joinedB; rw [HBG.out, HI.out]; rfl)
    obtain ⟨_, d0, d1, f0, f1⟩ := HC.out _ HB1.out
    go_wp2
    refine bodyPost_ret (v := .tuple #[plV 0 (.slice none 0 0), .bool false]) ?_ rfl (HNO.out _ HB1.out HF.out)
    simp [results, Try.results84, go_sem, d0, d1, plV]
  | true =>
  have HI := Lib.hid hi
  have HHI : Hid (decide (0 ≤ i ∧ i < (n : Int)) = true) := Lib.hid (by rw [← HN.out]; exact hi)
  obtain ⟨j, rfl, hj⟩ := hasB_nat hi
  have hjn : j < n := by have := HN.out; omega
  clear hi
  go_wp2_with fail
  rw [HV1.out]
  refine (has_any g2 n n (j : Int) true _ HHI.out).mono ?_
  rintro e w3 ⟨rfl, rfl⟩
  clear q0 q1
  have q0 := HX.out.2.1
  have q1 := HX.out.2.2
  cases hk : hasB zs k with
  | false =>
    have HK := Lib.hid hk
    have HHK : Hid (decide (0 ≤ k ∧ k < (n : Int)) = false) := Lib.hid (by rw [← HN.out]; exact hk)
    clear hk
    go_wp2_with fail
    refine (has_any g2 n n k false _ HHK.out).mono ?_
    rintro e w3 ⟨rfl, rfl⟩
    have HF : Hid (joinedB low zs (j : Int) k = false) := Lib.hid (by unfold joinedB; rw [HBG.out, HI.out, HK.out]; rfl)
    obtain ⟨_, d0, d1, f0, f1⟩ := HC.out _ HB1.out
    go_wp2
    refine bodyPost_ret (v := .tuple #[plV 0 (.slice none 0 0), .bool false]) ?_ rfl (HNO.out _ HB1.out HF.out)
    simp [results, Try.results84, go_sem, d0, d1, plV]
  | true =>
  have HK := Lib.hid hk
  have HHK : Hid (decide (0 ≤ k ∧ k < (n : Int)) = true) := Lib.hid (by rw [← HN.out]; exact hk)
  obtain ⟨q, rfl, hq⟩ := hasB_nat hk
  have hqn : q < n := by have := HN.out; omega
  clear hk
  by_cases hjq : j = q
  · subst hjq
    go_wp2_with fail
    refine (has_any g2 n n (j : Int) true _ HHK.out).mono ?_
    rintro e w3 ⟨rfl, rfl⟩
    have HF : Hid (joinedB low zs (j : Int) (j : Int) = false) := Lib.hid (by unfold joinedB; rw [HBG.out, HI.out]; simp)
    obtain ⟨_, d0, d1, f0, f1⟩ := HC.out _ HB1.out
    go_wp2
    refine bodyPost_ret (v := .tuple #[plV 0 (.slice none 0 0), .bool false]) ?_ rfl (HNO.out _ HB1.out HF.out)
    simp [results, Try.results84, go_sem, d0, d1, plV]
  have hne : ¬ (j : Int) = (q : Int) := by omega
  have hne1 : ((j : Int) == (q : Int)) = false := by rw [beq_eq_false_iff_ne]; exact hne
  have hne2 : decide ((j : Int) = (q : Int)) = false := decide_eq_false hne
  go_wp2_with fail
  refine (has_any g2 n n (q : Int) true _ HHK.out).mono ?_
  rintro e w3 ⟨rfl, rfl⟩
  have hjv : j < vs.length := by have := HREL.out.len; omega
  have hcz := HREL.out.cell j hjv
  have hwz := HREL.out.word hjv
  obtain ⟨r, hr⟩ : ∃ r, zs[j] = r := ⟨_, rfl⟩
  have hgd : zs.getD j ByteArray.empty = r := by rw [List.getD_eq_getElem?_getD, List.getElem?_eq_getElem hj]; exact hr
  have hrW : wordB r.data.toList = true := by rw [← hr]; exact (HRG.out.2.2 _ (List.getElem_mem hj)).1
  rw [hgd] at hwz
  obtain ⟨gj, cj, hvj⟩ := hwz.slice
  have hwi := hwz.isWord
  rw [hvj] at hcz hwi
  obtain ⟨lj, hlj⟩ : ∃ l, r.data.toList.length = l := ⟨_, rfl⟩
  rw [hlj] at hcz hwi
  have hqv : q < vs.length := by have := HREL.out.len; omega
  have hcy := HREL.out.cell q hqv
  have hwy := HREL.out.word hqv
  obtain ⟨r2, hr2⟩ : ∃ r, zs[q] = r := ⟨_, rfl⟩
  have hgd2 : zs.getD q ByteArray.empty = r2 := by rw [List.getD_eq_getElem?_getD, List.getElem?_eq_getElem hq]; exact hr2
  have hrW2 : wordB r2.data.toList = true := by rw [← hr2]; exact (HRG.out.2.2 _ (List.getElem_mem hq)).1
  rw [hgd2] at hwy
  obtain ⟨gy, cy, hvy⟩ := hwy.slice
  have hwi2 := hwy.isWord
  rw [hvy] at hcy hwi2
  obtain ⟨ly, hly⟩ : ∃ l, r2.data.toList.length = l := ⟨_, rfl⟩
  rw [hly] at hcy hwi2
  obtain ⟨R, hR⟩ : ∃ R, redL [] (r.data.toList ++ r2.data.toList) = R := ⟨_, rfl⟩
  have HR : Hid (redX [] (r.data.toList ++ (r2.data.toList ++ [])) = R) := Lib.hid (by
    obtain ⟨_, p2, _⟩ := (wordB_iff _).1 hrW
    obtain ⟨_, p3, _⟩ := (wordB_iff _).1 hrW2
    rw [List.append_nil, redX_eq _ _ (by rw [letL_append, p2, p3]; rfl)]; exact hR)
  have hl60 : r.data.toList.length ≤ 60 := ((wordB_iff _).1 hrW).1
  have hl602 : r2.data.toList.length ≤ 60 := ((wordB_iff _).1 hrW2).1
  have hRl : R.length ≤ 1000 := by have h1 := redL_len (r.data.toList ++ r2.data.toList) []; rw [hR, List.length_append, List.length_nil] at h1; omega
  have hrd := reduced_boxes V1 [⟨204, .slice (some ⟨gj, 0, none⟩) lj cj, r.data.toList, r.data.toList⟩, ⟨204, .slice (some ⟨gy, 0, none⟩) ly cy, r2.data.toList, r2.data.toList⟩]
    (fun it hit => by
      rcases List.mem_cons.1 hit with rfl | hit
      · exact ⟨gives_fwd _ _, hwi⟩
      · obtain rfl := List.mem_singleton.1 hit; exact ⟨gives_fwd _ _, hwi2⟩) (by simp only [List.map_cons, List.map_nil, List.flatten_cons, List.flatten_nil, List.length_append, List.length_nil]; omega) (by simp)
  simp only [List.map_cons, List.map_nil, List.flatten_cons, List.flatten_nil, HR.out] at hrd
  have HRd := Lib.hid hrd
  have HSC : Hid (∀ V, Below V1.heap.size V1 V → V.cell? ⟨w1.heap.size, 0, none⟩ = some (.int .i64 low) ∧ V.cell? ⟨w1.heap.size, 1, none⟩ = some (.slice (some ⟨g2, 0, none⟩) n n) ∧ V.cell? ⟨g2, j, none⟩ = some (.slice (some ⟨gj, 0, none⟩) lj cj) ∧ V.cell? ⟨g2, q, none⟩ = some (.slice (some ⟨gy, 0, none⟩) ly cy)) := Lib.hid fun V hV => ⟨(HX.out.below hV).2.1, (HX.out.below hV).2.2, (hV.cell (p := ⟨g2, j, none⟩) HREL.out.lt.2).trans hcz, (hV.cell (p := ⟨g2, q, none⟩) HREL.out.lt.2).trans hcy⟩
  have hx : jnS zs (j : Int) (q : Int) = bstr R := by unfold jnS; rw [show ((j : Int)).toNat = j from rfl, show ((q : Int)).toNat = q from rfl, hgd, hgd2, hR]
  have hZ : jnZ zs (j : Int) (q : Int) = zs.set j (bstr R) := by unfold jnZ; rw [hx]; rfl
  obtain ⟨b, hb⟩ : ∃ b, groupB low (zs.set j (bstr R)) = b := ⟨_, rfl⟩
  have HBE : Hid (joinedB low zs (j : Int) (q : Int) = b) := Lib.hid (by unfold joinedB; rw [HBG.out, HI.out, HK.out, hne2, hZ, hb]; rfl)
  have HZ := Lib.hid hZ
  have HRL := Lib.hid hRl
  have HB := Lib.hid hb
  have HVJ := Lib.hid hvj
  have HBk := Lib.hid (Below.refl V1.heap.size V1).drew
  have hS0 := HSC.out _ HBk.out
  clear hcz hwz hr hgd hwi hlj hR hrd hx hZ hb hRl hvj hl60 hl602 q0 q1 hrW hcy hwy hr2 hgd2 hwi2 hly hvy hrW2
  go_upto_region 4 with fail
  refine wp_region_G 18 (fun w' : World => w'.cell? ⟨w1.heap.size, 0, none⟩ = some (.int .i64 low) ∧ w'.cell? ⟨w1.heap.size, 1, none⟩ = some (.slice (some ⟨g2, 0, none⟩) n n) ∧ w'.cell? ⟨g2, j, none⟩ = some (.slice (some ⟨gj, 0, none⟩) lj cj) ∧ w'.cell? ⟨g2, q, none⟩ = some (.slice (some ⟨gy, 0, none⟩) ly cy)) hmx hS0 ?hW0
  intro hHeld
  simp only [List.length_cons, List.length_nil, List.replicate]
  refine walkG_take (i := 0) (v := ?v0) rfl (by kernel_rfl) (by kernel_rfl) (by kernel_rfl) (fun _ _ _ h => h) (Or.inl ⟨by rfl, ?hy0⟩) (by assumption) ?rest0
  case hy0 =>
    intro w hSw
    (try dsimp only at hSw)
    go_simp
    (try with_reducible rfl)
  try simp only [Act.put, List.setIfInBounds_toArray, List.set_cons_zero, List.set_cons_succ]
  refine walkG_take (i := 1) (v := ?v1) rfl (by kernel_rfl) (by kernel_rfl) (by kernel_rfl) (fun _ _ _ h => h) (Or.inl ⟨by rfl, ?hy1⟩) (by assumption) ?rest1
  case hy1 =>
    intro w hSw
    (try dsimp only at hSw)
    go_simp
    (try with_reducible rfl)
  try simp only [Act.put, List.setIfInBounds_toArray, List.set_cons_zero, List.set_cons_succ]
  refine walkG_take (i := 2) (v := ?v2) rfl (by kernel_rfl) (by kernel_rfl) (by kernel_rfl) (fun _ _ _ h => h) (Or.inl ⟨by rfl, ?hy2⟩) (by assumption) ?rest2
  case hy2 =>
    intro w hSw
    (try dsimp only at hSw)
    go_simp
    (try with_reducible rfl)
  try simp only [Act.put, List.setIfInBounds_toArray, List.set_cons_zero, List.set_cons_succ]
  refine walkG_take (i := 3) (v := ?v3) rfl (by kernel_rfl) (by kernel_rfl) (by kernel_rfl) (fun _ _ _ h => h) (Or.inl ⟨by rfl, ?hy3⟩) (by assumption) ?rest3
  case hy3 =>
    intro w hSw
    (try dsimp only at hSw)
    go_simp
    (try with_reducible rfl)
  try simp only [Act.put, List.setIfInBounds_toArray, List.set_cons_zero, List.set_cons_succ]
  refine walkG_take (i := 4) (v := ?v4) rfl (by kernel_rfl) (by kernel_rfl) (by kernel_rfl) (fun _ _ _ h => h) (Or.inl ⟨by rfl, ?hy4⟩) (by assumption) ?rest4
  case hy4 =>
    intro w hSw
    (try dsimp only at hSw)
    go_simp
    (try with_reducible rfl)
  try simp only [Act.put, List.setIfInBounds_toArray, List.set_cons_zero, List.set_cons_succ]
  refine walkG_take (i := 5) (v := ?v5) rfl (by kernel_rfl) (by kernel_rfl) (by kernel_rfl) (fun _ _ _ h => h) (Or.inl ⟨by rfl, ?hy5⟩) (by assumption) ?rest5
  case hy5 =>
    intro w hSw
    (try dsimp only at hSw)
    go_simp
    (try with_reducible rfl)
  try simp only [Act.put, List.setIfInBounds_toArray, List.set_cons_zero, List.set_cons_succ]
  refine walkG_take (i := 6) (v := ?v6) rfl (by kernel_rfl) (by kernel_rfl) (by kernel_rfl) (fun _ _ _ h => h) (Or.inl ⟨by rfl, ?hy6⟩) (by assumption) ?rest6
  case hy6 =>
    intro w hSw
    (try dsimp only at hSw)
    go_simp
    (try with_reducible rfl)
  try simp only [Act.put, List.setIfInBounds_toArray, List.set_cons_zero, List.set_cons_succ]
  refine walkG_take (i := 7) (v := ?v7) rfl (by kernel_rfl) (by kernel_rfl) (by kernel_rfl) (fun _ _ _ h => h) (Or.inl ⟨by rfl, ?hy7⟩) (by assumption) ?rest7
  case hy7 =>
    intro w hSw
    (try dsimp only at hSw)
    go_simp
    (try with_reducible rfl)
  try simp only [Act.put, List.setIfInBounds_toArray, List.set_cons_zero, List.set_cons_succ]
  refine walkG_take (i := 9) (v := ?v9) rfl (by kernel_rfl) (by kernel_rfl) (by kernel_rfl) (fun _ _ _ h => h) (Or.inl ⟨by rfl, ?hy9⟩) (by assumption) ?rest9
  case hy9 =>
    intro w hSw
    (try dsimp only at hSw)
    go_simp
    (try with_reducible rfl)
  try simp only [Act.put, List.setIfInBounds_toArray, List.set_cons_zero, List.set_cons_succ]
  refine walkG_take (i := 10) (v := ?v10) rfl (by kernel_rfl) (by kernel_rfl) (by kernel_rfl) (fun _ _ _ h => h) (Or.inl ⟨by rfl, ?hy10⟩) (by assumption) ?rest10
  case hy10 =>
    intro w hSw
    (try dsimp only at hSw)
    go_simp
    (try with_reducible rfl)
  try simp only [Act.put, List.setIfInBounds_toArray, List.set_cons_zero, List.set_cons_succ]
  refine walkG_take (i := 11) (v := ?v11) rfl (by kernel_rfl) (by kernel_rfl) (by kernel_rfl) (fun _ _ _ h => h) (Or.inl ⟨by rfl, ?hy11⟩) (by assumption) ?rest11
  case hy11 =>
    intro w hSw
    (try dsimp only at hSw)
    go_simp
    (try with_reducible rfl)
  try simp only [Act.put, List.setIfInBounds_toArray, List.set_cons_zero, List.set_cons_succ]
  refine walkG_take (i := 12) (v := ?v12) rfl (by kernel_rfl) (by kernel_rfl) (by kernel_rfl) (fun _ _ _ h => h) (Or.inl ⟨by rfl, ?hy12⟩) (by assumption) ?rest12
  case hy12 =>
    intro w hSw
    (try dsimp only at hSw)
    go_simp
    (try with_reducible rfl)
  try simp only [Act.put, List.setIfInBounds_toArray, List.set_cons_zero, List.set_cons_succ]
  refine walkG_take (i := 13) (v := ?v13) rfl (by kernel_rfl) (by kernel_rfl) (by kernel_rfl) (fun _ _ _ h => h) (Or.inl ⟨by rfl, ?hy13⟩) (by assumption) ?rest13
  case hy13 =>
    intro w hSw
    (try dsimp only at hSw)
    go_simp
    (try with_reducible rfl)
  try simp only [Act.put, List.setIfInBounds_toArray, List.set_cons_zero, List.set_cons_succ]
  refine walkG_one (i := 8) rfl (by decide) (by kernel_rfl) (fun K hK => ?_)
  go_simp
  refine (letters_fwd _ _ _ 1 _ (by decide)).mono ?_
  rintro e V5 ⟨rfl, rfl⟩
  go_wp2_with fail
  have HBk1 := Lib.hid (HBk.out.alloc HBk.out.size (.cells #[.slice (some ⟨gj, 0, none⟩) lj cj] WT))
  refine hK.out _ _ (HSC.out _ HBk1.out) (fun hHeld1 => ?_)
  clear hK K hHeld
  try simp only [List.setIfInBounds_toArray, List.set_cons_zero, List.set_cons_succ]
  refine walkG_one (i := 14) rfl (by decide) (by kernel_rfl) (fun K hK => ?_)
  go_simp
  refine (letters_fwd _ _ _ 1 _ (by decide)).mono ?_
  rintro e V6 ⟨rfl, rfl⟩
  go_wp2_with fail
  have HBk2 := Lib.hid (HBk1.out.alloc HBk1.out.size (.cells #[.slice (some ⟨gy, 0, none⟩) ly cy] WT))
  refine hK.out _ _ (HSC.out _ HBk2.out) (fun hHeld2 => ?_)
  clear hK K hHeld1
  try simp only [List.setIfInBounds_toArray, List.set_cons_zero, List.set_cons_succ]
  refine walkG_one (i := 15) rfl (by decide) (by kernel_rfl) (fun K hK => ?_)
  go_simp
  refine hK.out _ _ (HSC.out _ (HBk2.out.alloc HBk2.out.size _)) (fun hHeld3 => ?_)
  clear hK K hHeld2
  try simp only [List.setIfInBounds_toArray, List.set_cons_zero, List.set_cons_succ]
  refine walkG_one (i := 16) rfl (by decide) (by kernel_rfl) (fun K hK => ?_)
  go_simp
  refine HRd.out.mono ?_
  rintro e w4 ⟨g4, m4, c4, rfl, hm4, hown4, hb4⟩
  go_wp2_with fail
  have HM4 := Lib.hid hm4
  have HO4 := Lib.hid hown4
  have HB4 := Lib.hid hb4
  have HREL4 := Lib.hid (HREL.out.below hb4)
  have HX4 := Lib.hid (HX.out.below hb4)
  refine hK.out _ _ (HSC.out _ hb4) (fun hHeld4 => ?_)
  clear hK K hHeld3 hm4 hown4 hb4
  try simp only [List.setIfInBounds_toArray, List.set_cons_zero, List.set_cons_succ]
  refine walkG_take (i := 17) (v := ?v17) rfl (by kernel_rfl) (by kernel_rfl) (by kernel_rfl) (fun _ _ _ h => h) (Or.inl ⟨by rfl, ?hy17⟩) (by assumption) ?rest17
  case hy17 =>
    intro w hSw
    (try dsimp only at hSw)
    go_simp
    (try with_reducible rfl)
  try simp only [Act.put, List.setIfInBounds_toArray, List.set_cons_zero, List.set_cons_succ]
  have hz4 := HREL4.out.cell j hjv
  rw [HVJ.out] at hz4
  have hf4 := HREL4.out.row.frozenAt j
  refine walkG_last rfl (by kernel_rfl) (by kernel_rfl) (fun K hK => ?_) _
  go_simp
  refine hK.out _ _ ?_
  clear hK K hHeld4
  obtain ⟨W5, hW5⟩ : ∃ X, w4.setCell ⟨g2, j, none⟩ (.slice (some ⟨g4, 0, none⟩) m4 c4) = X := ⟨_, rfl⟩
  have hws : WsAt W5 g2 (vs.set j (.slice (some ⟨g4, 0, none⟩) m4 c4)) ((zs.map fun z => z.data.toList).set j R) := by
    have hst := HREL4.out.row.stored j (.slice (some ⟨g4, 0, none⟩) m4 c4)
    rw [hW5] at hst
    have hlen : (vs.set j (.slice (some ⟨g4, 0, none⟩) m4 c4)).length = zs.length := by rw [List.length_set]; exact HREL4.out.len
    have hsz5 : W5.heap.size = w4.heap.size := by rw [← hW5]; simp
    have hg4 : V1.heap.size ≤ g4 ∧ g4 < w4.heap.size := ⟨own_ge HO4.out g4 rfl, own_lt HO4.out g4 rfl⟩
    have hg2l := HREL.out.lt.2
    have hoff : ∀ b o, b ≠ g2 → W5.cell? ⟨b, o, none⟩ = w4.cell? ⟨b, o, none⟩ := fun b o hne => by
      rw [← hW5]
      exact World.cell?_of_block (a := ⟨b, o, none⟩) (Below.heap_setCell w4 ⟨g2, j, none⟩ _ b hne)
    refine ⟨by rw [hlen, List.length_set, List.length_map], by rw [hsz5]; exact HREL4.out.lt.2, fun t ht => ?_, fun t ht ht2 => ?_⟩
    · rw [hlen] at ht
      rw [hst.1.cellAt t (by omega)]
      exact List.getElem?_eq_getElem (by rw [hlen]; exact ht)
    · by_cases e : t = j
      · subst e
        simp only [List.getElem_set_self]
        have hw := isWord_of_owns (n₀ := w4.heap.size) (l := R) HM4.out (by have := HRL.out; have := HM4.out; omega) HO4.out (Nat.le_refl _)
        obtain ⟨g, off, cap, e1, h1, h2, h3⟩ := hw
        simp only [Value.slice.injEq, Option.some.injEq, Addr.mk.injEq] at e1
        obtain ⟨⟨rfl, rfl, _⟩, e2, rfl⟩ := e1
        exact ⟨g4, 0, c4, by rw [e2], by rw [hsz5]; exact h1, h2, fun k hk => (hoff g4 (0 + k) (by omega)).trans (h3 k hk)⟩
      · rw [List.length_set, List.length_map] at ht2
        simp only [List.getElem_set_ne (Ne.symm e), List.getElem_map]
        have htv : t < vs.length := by have := HREL4.out.len; omega
        have hw := HREL4.out.word htv
        have e2 : zs.getD t ByteArray.empty = zs[t] := by rw [List.getD_eq_getElem?_getD, List.getElem?_eq_getElem ht2]; rfl
        rw [e2] at hw
        obtain ⟨g, cap, e1, h1, h2, h3, h4⟩ := hw
        rw [e1]
        refine ⟨g, 0, cap, rfl, by rw [hsz5]; exact h2, by omega, fun k hk => ?_⟩
        have hne : g ≠ g2 := fun e3 => by
          have h5 := h4 0 (by omega)
          have h6 := HREL4.out.cell 0 (by omega)
          have h7 := HREL4.out.word (j := 0) (by omega)
          obtain ⟨_, _, e7⟩ := h7.slice
          rw [e3, h6, e7] at h5
          cases h5
        rw [Nat.zero_add]
        exact (hoff g k hne).trans (h4 k hk)
  have hB5 : Below W.heap.size W W5 := by
    rw [← hW5]
    exact (HB1.out.trans (HB4.out.mono HB1.out.size)).setCell (p := ⟨g2, j, none⟩) HGE.out _
  have hbm : ((zs.map fun z => z.data.toList).set j R).map bstr = zs.set j (bstr R) := by
    rw [List.map_set, List.map_map]
    congr 1
    refine (List.map_congr_left fun z _ => ?_).trans (List.map_id _)
    exact bstr_of z
  have HTO := Lib.hid (toldG_any low g2 n n _ _ b W5 hws (by rw [List.length_set, List.length_map]; exact HN.out) (by omega) (fun l hl => by
    rcases List.mem_or_eq_of_mem_set hl with h | h
    · obtain ⟨z, hz, rfl⟩ := List.mem_map.1 h
      have := ((wordB_iff _).1 (HRG.out.2.2 z hz).1).1
      omega
    · rw [h]; have := HRL.out; omega) (by rw [hbm]; exact HB.out))
  rw [hbm] at HTO
  have HB5 := Lib.hid hB5
  have HW5 := Lib.hid hW5
  have q0 := HX4.out.2.1
  have q1 := HX4.out.2.2
  clear hws hB5 hbm hW5 hz4 hf4
  go_wp2_with fail
  rw [HW5.out]
  refine HTO.out.mono ?_
  rintro e w6 ⟨⟨v, rfl, hgr⟩, hb6⟩
  obtain ⟨D, hD⟩ : ∃ D, doneG b ⟨low, zs.set j (bstr R)⟩ = D := ⟨_, rfl⟩
  rw [hD] at hgr ⊢
  obtain ⟨aq, _, cq, rfl, _⟩ := hgr.shape
  obtain ⟨L, hL⟩ : ∃ L, D.cs.length = L := ⟨_, rfl⟩
  rw [hL] at hgr ⊢
  have HGR := Lib.hid hgr
  have HB6 := Lib.hid (HB5.out.trans (hb6.mono HB5.out.size))
  obtain ⟨_, d0, d1, f0, f1⟩ := HC.out w6 HB6.out
  have HFIN : Hid (ToldG w (joinedB low zs (j : Int) (q : Int)) ⟨low, jnZ zs (j : Int) (q : Int)⟩ (.returned (.tuple #[plV D.low (.slice aq L cq), .bool b])) ((w6.setCell ⟨w.heap.size + 1, 0, none⟩ (.int .i64 D.low)).setCell ⟨w.heap.size + 1, 1, none⟩ (.slice aq L cq))) := Lib.hid (by
    rw [HBE.out, HZ.out]
    have h2 := HSZ.out
    have h3 := HB5.out.size
    have hk : ∀ k, (Value.slice aq L cq).ownBlock = some k → w.heap.size + 1 < k := fun k e => by have h1 := own_ge hgr.1 k e; omega
    exact ⟨⟨_, by rw [hD], by rw [hD]; exact ((hgr.mono (by omega)).set hk).set hk⟩, ((HBW.out.trans (HB6.out.mono HBW.out.size)).setCell (p := ⟨w.heap.size + 1, 0, none⟩) (by show w.heap.size ≤ w.heap.size + 1; omega) _).setCell (p := ⟨w.heap.size + 1, 1, none⟩) (by show w.heap.size ≤ w.heap.size + 1; omega) _⟩)
  clear hD hL hgr hb6 q0 q1
  go_wp2
  refine bodyPost_ret (v := .tuple #[plV D.low (.slice aq L cq), .bool b]) ?_ rfl HFIN.out
  simp [results, Try.results84, go_sem, d0, d1, plV]

end Go.Proofs.Ytbbkpaledlbcmaa

/- How GroupMove and GroupJoin and the model answer, for the laws. -/

namespace Go.Proofs.Ytbbkpaledlbcmaa
open Go.RowKit

theorem doneG_fit {b : Bool} {q p : Gp} (h : b = true → q.cs.length ≤ 200) (hp : doneG b q = p) : p.cs.length ≤ 200 := by
  subst hp
  cases b with
  | false => exact Nat.zero_le _
  | true => exact h rfl
section
variable {low : Int} {a : Option Addr} {g n c : Nat} {zs : List ByteArray} {b : Bool} {w : World} {p : Gp} {pl : Int} {pc : List ByteArray}
theorem moved_fit {i : Int} {s : ByteArray} (_ : IsStrs w a n zs) (_ : movedB low zs i s = b) (hp : movedP low zs i s = p) : p.cs.length ≤ 200 := by
  unfold movedP at hp
  refine doneG_fit (fun h => ?_) hp
  unfold movedB at h
  simp only [Bool.and_eq_true] at h
  have h2 := (groupB_iff.1 h.2.2.2).2.1
  show (mvZ zs i s).length ≤ 200
  omega
theorem sGroupMove_law {i : Int} {s : ByteArray} (hs : IsStrs w (some ⟨g, 0, none⟩) n zs) (hz : s.size ≤ maxLen) (hb : movedB low zs i s = b) (hp : movedP low zs i s = ⟨pl, pc⟩) :
    Calls Try.prog 80 #[plV low (.slice (some ⟨g, 0, none⟩) n c), .int .i64 i, .string s] w fun e w' => (∃ v, e = .returned (.tuple #[plV pl v, .bool b]) ∧ GRow w.heap.size w' v pc) ∧ Below w.heap.size w w' := by
  refine (sGroupMove_any low g c n zs i s w hs hz).mono fun e w' h => ?_
  unfold movedP at hp
  unfold ToldG at h
  rw [hp, hb] at h
  exact h
theorem iGroupMove_law {i : Int} {s : ByteArray} (hs : IsStrs w (some ⟨g, 0, none⟩) n zs) (hz : s.size ≤ maxLen) (hb : movedB low zs i s = b) (hp : movedP low zs i s = ⟨pl, pc⟩) :
    Calls Try.prog 81 #[plV low (.slice (some ⟨g, 0, none⟩) n c), .int .i64 i, .string s] w fun e w' => (∃ v, e = .returned (.tuple #[plV pl v, .bool b]) ∧ GRow w.heap.size w' v pc) ∧ Below w.heap.size w w' := by
  refine (iGroupMove_any low g c n zs i s w hs hz).mono fun e w' h => ?_
  unfold movedP at hp
  unfold ToldG at h
  rw [hp, hb] at h
  exact h
theorem joined_fit {i k : Int} (_ : IsStrs w a n zs) (_ : joinedB low zs i k = b) (hp : joinedP low zs i k = p) : p.cs.length ≤ 200 := by
  unfold joinedP at hp
  refine doneG_fit (fun h => ?_) hp
  unfold joinedB at h
  simp only [Bool.and_eq_true] at h
  have h2 := (groupB_iff.1 h.2.2.2.2).2.1
  show (jnZ zs i k).length ≤ 200
  omega
theorem sGroupJoin_law {i k : Int} (hs : IsStrs w (some ⟨g, 0, none⟩) n zs) (hb : joinedB low zs i k = b) (hp : joinedP low zs i k = ⟨pl, pc⟩) :
    Calls Try.prog 83 #[plV low (.slice (some ⟨g, 0, none⟩) n c), .int .i64 i, .int .i64 k] w fun e w' => (∃ v, e = .returned (.tuple #[plV pl v, .bool b]) ∧ GRow w.heap.size w' v pc) ∧ Below w.heap.size w w' := by
  refine (sGroupJoin_any low g c n zs i k w hs).mono fun e w' h => ?_
  unfold joinedP at hp
  unfold ToldG at h
  rw [hp, hb] at h
  exact h
theorem iGroupJoin_law {i k : Int} (hs : IsStrs w (some ⟨g, 0, none⟩) n zs) (hb : joinedB low zs i k = b) (hp : joinedP low zs i k = ⟨pl, pc⟩) :
    Calls Try.prog 84 #[plV low (.slice (some ⟨g, 0, none⟩) n c), .int .i64 i, .int .i64 k] w fun e w' => (∃ v, e = .returned (.tuple #[plV pl v, .bool b]) ∧ GRow w.heap.size w' v pc) ∧ Below w.heap.size w w' := by
  refine (iGroupJoin_any low g c n zs i k w hs).mono fun e w' h => ?_
  unfold joinedP at hp
  unfold ToldG at h
  rw [hp, hb] at h
  exact h
end

end Go.Proofs.Ytbbkpaledlbcmaa

/- The program's GroupGrow. -/

namespace Go.Proofs.Ytbbkpaledlbcmaa
open Go.RowKit Go.Shelf

/-- The letter of the next generator. -/
def grC (low : Int) : UInt8 := UInt8.ofNat (97 + low.toNat)
def grS (low : Int) (s : ByteArray) : ByteArray := bstr (s.data.toList ++ [invB (grC low)])
def grownZ (low : Int) (zs : List ByteArray) (s : ByteArray) : List ByteArray := zs ++ [grS low s]
def grownB (low : Int) (zs : List ByteArray) (s : ByteArray) : Bool := groupB low zs && (wordB s.data.toList && (onlyB low s.data.toList && groupB (low + 1) (grownZ low zs s)))
def grownP (low : Int) (zs : List ByteArray) (s : ByteArray) : Gp := doneG (grownB low zs s) ⟨low + 1, grownZ low zs s⟩
theorem low_cases {low : Int} (h : 1 ≤ low ∧ low ≤ 4) : low = 1 ∨ low = 2 ∨ low = 3 ∨ low = 4 := by omega
theorem grC_wrap {low : Int} (h : 1 ≤ low ∧ low ≤ 4) : IntKind.u8.wrap (97 + low) = ((grC low).toNat : Int) := by
  rcases low_cases h with rfl | rfl | rfl | rfl <;> decide
theorem grC_idx {low : Int} (h : 1 ≤ low ∧ low ≤ 4) : (idxB (grC low) : Int) = low := by
  rcases low_cases h with rfl | rfl | rfl | rfl <;> decide
theorem invB_invB (c : UInt8) : invB (invB c) = c := by
  unfold invB
  rw [UInt8.xor_assoc, UInt8.xor_self, UInt8.xor_zero]
theorem grC_last {low : Int} (h : 1 ≤ low ∧ low ≤ 4) {l : List UInt8} (ho : onlyB low l = true) : l.getLast? ≠ some (invB (invB (grC low))) := fun e => by
  rw [invB_invB] at e
  have hm := List.mem_of_getLast? e
  have h1 := of_decide_eq_true (List.all_eq_true.1 ho _ hm)
  have h2 := grC_idx h
  omega

set_option maxRecDepth 100000 in
set_option maxHeartbeats 4000000 in
theorem iGroupGrow_any (low : Int) (g cap n : Nat) (zs : List ByteArray) (s : ByteArray) (w : World) (hs : IsStrs w (some ⟨g, 0, none⟩) n zs) (hz : s.size ≤ maxLen) :
    Calls Try.prog 86 #[plV low (.slice (some ⟨g, 0, none⟩) n cap), .string s] w (ToldG w (grownB low zs s) ⟨low + 1, grownZ low zs s⟩) := by
  have hmx : Try.prog.follows .mixedOrders = true := by kernel_rfl
  have hm := hs.max
  unfold maxLen at hm
  obtain ⟨W, hW⟩ : ∃ W, (w.alloc (.cells #[.int .i64 low, .slice (some ⟨g, 0, none⟩) n cap] 64)).alloc (.cells #[.int .i64 0, .slice none 0 0] 64) = W := ⟨_, rfl⟩
  obtain ⟨hbW, hsz2⟩ := boxes2Below hW
  have HC : Hid (∀ w1, Below W.heap.size W w1 → _) := Lib.hid fun w1 (hg : Below W.heap.size W w1) => boxes2 hW hg
  obtain ⟨⟨k0, k1⟩, _⟩ := boxes2 hW (Below.refl _ _)
  obtain ⟨bg, hbg⟩ : ∃ bg, groupB low zs = bg := ⟨_, rfl⟩
  have HGO := Lib.hid (groupOf_any low g cap n zs bg W (hs.below hbW) hbg)
  have HN := Lib.hid hs.len
  have HBG := Lib.hid hbg
  have HBW := Lib.hid hbW
  have HW := Lib.hid hW
  have HSZ := Lib.hid hsz2
  have HNO : Hid (∀ w1, Below W.heap.size W w1 → grownB low zs s = false → ToldG w (grownB low zs s) ⟨low + 1, grownZ low zs s⟩ (.returned (.tuple #[plV 0 (.slice none 0 0), .bool false])) ((w1.setCell ⟨w.heap.size + 1, 0, none⟩ (.int .i64 0)).setCell ⟨w.heap.size + 1, 1, none⟩ (.slice none 0 0))) := Lib.hid fun w1 h1 e =>
    ToldG.no e (((hbW.trans (h1.mono hbW.size)).setCell (p := ⟨w.heap.size + 1, 0, none⟩) (by show w.heap.size ≤ w.heap.size + 1; omega) _).setCell (p := ⟨w.heap.size + 1, 1, none⟩) (by show w.heap.size ≤ w.heap.size + 1; omega) _)
  rw [← hW] at k0 k1
  clear hs hbg hW hbW hsz2
  go_enter Try.func86, Try.ntmps86
  go_wp2_with fail
  rw [HW.out]
  refine HGO.out.mono ?_
  rintro e w1 ⟨⟨rfl, rfl⟩ | ⟨rfl, g2, vs, rfl, hrel⟩, hb1⟩
  · have HB1 := Lib.hid (hb1.alloc hb1.size (.cells #[.int .i64 0, .slice none 0 0] 137))
    clear hb1 k0 k1
    cases hw : wordB s.data.toList with
    | true =>
      have HWD := Lib.hid hw
      clear hw
      go_wp2_with fail
      refine (wordOf_yes s _ HWD.out).mono ?_
      rintro e w2 ⟨gm, cm, rfl, _, hb2⟩
      have HB2 := Lib.hid (HB1.out.trans (hb2.mono HB1.out.size))
      clear hb2
      have HF : Hid (grownB low zs s = false) := Lib.hid (by unfold grownB; rw [HBG.out]; rfl)
      obtain ⟨_, d0, d1, f0, f1⟩ := HC.out _ HB2.out
      go_wp2
      refine bodyPost_ret (v := .tuple #[plV 0 (.slice none 0 0), .bool false]) ?_ rfl (HNO.out _ HB2.out HF.out)
      simp [results, Try.results86, go_sem, d0, d1, plV]
    | false =>
      have HWD := Lib.hid hw
      clear hw
      go_wp2_with fail
      refine (wordOf_no s _ hz HWD.out).mono ?_
      rintro e w2 ⟨rfl, hb2⟩
      have HB2 := Lib.hid (HB1.out.trans (hb2.mono HB1.out.size))
      clear hb2
      have HF : Hid (grownB low zs s = false) := Lib.hid (by unfold grownB; rw [HBG.out]; rfl)
      obtain ⟨_, d0, d1, f0, f1⟩ := HC.out _ HB2.out
      go_wp2
      refine bodyPost_ret (v := .tuple #[plV 0 (.slice none 0 0), .bool false]) ?_ rfl (HNO.out _ HB2.out HF.out)
      simp [results, Try.results86, go_sem, d0, d1, plV]
  obtain ⟨V1, hV1⟩ : ∃ V, w1.alloc (.cells #[.int .i64 low, .slice (some ⟨g2, 0, none⟩) zs.length zs.length] 137) = V := ⟨_, rfl⟩
  have hbV1 : Below w1.heap.size w1 V1 := by rw [← hV1]; exact (Below.refl _ _).alloc (Nat.le_refl _) _
  have hX := boxNew hV1
  rw [HN.out] at hX hV1 ⊢
  have hlt2 := hrel.lt
  have HREL := Lib.hid (hrel.below hbV1)
  have HX := Lib.hid hX
  have HB1 := Lib.hid (hb1.trans (hbV1.mono hb1.size))
  have hmne1 : ¬ w1.heap.size = g2 := by omega
  have hmne2 : ¬ g2 = w1.heap.size := by omega
  have hmr1 : ¬ g2 = w.heap.size + 1 := by have := HSZ.out; omega
  have hmr2 : ¬ w.heap.size + 1 = g2 := by have := HSZ.out; omega
  have HGE := Lib.hid hlt2.1
  have HV1 := Lib.hid hV1
  have HX1 := HX
  have HREL1 := HREL
  have HWL := Lib.hid hb1.size
  have hrelG := groupB_iff.1 HBG.out
  have hn4 : n ≤ 4 := by have h1 := hrelG.2.1; have h2 := HN.out; omega
  have HRG := Lib.hid hrelG
  clear hrel hb1 hbV1 hX hV1 hlt2 k0 k1 hrelG
  cases hw : wordB s.data.toList with
  | false =>
    have HWD := Lib.hid hw
    clear hw
    go_wp2_with fail
    rw [HV1.out]
    refine (wordOf_no s _ hz HWD.out).mono ?_
    rintro e w2 ⟨rfl, hb2⟩
    have HB2 := Lib.hid (HB1.out.trans (hb2.mono HB1.out.size))
    clear hb2
    have HF : Hid (grownB low zs s = false) := Lib.hid (by unfold grownB; rw [HBG.out, HWD.out, Bool.false_and, Bool.and_false])
    obtain ⟨_, d0, d1, f0, f1⟩ := HC.out _ HB2.out
    go_wp2
    refine bodyPost_ret (v := .tuple #[plV 0 (.slice none 0 0), .bool false]) ?_ rfl (HNO.out _ HB2.out HF.out)
    simp [results, Try.results86, go_sem, d0, d1, plV]
  | true =>
  have HWD := Lib.hid hw
  clear hw
  go_wp2_with fail
  rw [HV1.out]
  refine (wordOf_yes s _ HWD.out).mono ?_
  rintro e w2 ⟨gm, cm, rfl, hown2, hb2⟩
  have HOM := Lib.hid hown2
  have HBM := Lib.hid hb2
  have hs60 : s.size ≤ 60 := by have := ((wordB_iff _).1 HWD.out).1; simpa using this
  have HMW := Lib.hid (isWord_of_owns (n₀ := w2.heap.size) (l := s.data.toList) (by simp) (by omega) hown2 (Nat.le_refl _))
  have HB2 := Lib.hid (HB1.out.trans (hb2.mono HB1.out.size))
  have HX := Lib.hid (HX.out.below hb2)
  have HREL := Lib.hid (HREL.out.below hb2)
  have q0 := HX.out.2.1
  have q1 := HX.out.2.2
  clear hown2 hb2
  have HLE : Hid (letL s.data.toList = true) := Lib.hid (((wordB_iff _).1 HWD.out).2.1)
  cases ho : onlyB low s.data.toList with
  | false =>
    have HOB := Lib.hid ho
    have HOC := Lib.hid (hasOnly_any _ _ _ low false w2 HMW.out (Nat.le_refl _) HLE.out ho)
    clear ho
    go_wp2_with fail
    refine HOC.out.mono ?_
    rintro e w3 ⟨rfl, hb3⟩
    have HB3 := Lib.hid (HB2.out.trans (hb3.mono HB2.out.size))
    clear q0 q1 hb3
    have HF : Hid (grownB low zs s = false) := Lib.hid (by unfold grownB; rw [HBG.out, HWD.out, HOB.out]; rfl)
    obtain ⟨_, d0, d1, f0, f1⟩ := HC.out _ HB3.out
    go_wp2
    refine bodyPost_ret (v := .tuple #[plV 0 (.slice none 0 0), .bool false]) ?_ rfl (HNO.out _ HB3.out HF.out)
    simp [results, Try.results86, go_sem, d0, d1, plV]
  | true =>
  have HOB := Lib.hid ho
  have HOC := Lib.hid (hasOnly_any _ _ _ low true w2 HMW.out (Nat.le_refl _) HLE.out ho)
  clear ho
  obtain ⟨c0, hc0⟩ : ∃ c0, grC low = c0 := ⟨_, rfl⟩
  obtain ⟨F, hF⟩ : ∃ F : Int, 97 + low = F := ⟨_, rfl⟩
  obtain ⟨L1, hL1⟩ : ∃ L1 : Int, low + 1 = L1 := ⟨_, rfl⟩
  have hlow := HRG.out.1
  have hwF : IntKind.i64.wrap (97 + low) = F := by rw [IntWalk.i64_in _ (by omega)]; exact hF
  have hwL : IntKind.i64.wrap (low + 1) = L1 := by rw [IntWalk.i64_in _ (by omega)]; exact hL1
  have hwC : IntKind.u8.wrap F = (c0.toNat : Int) := by rw [← hF, ← hc0]; exact grC_wrap hlow
  have hpush : s.data.toList.getLast? ≠ some (invB (invB c0)) := by rw [← hc0]; exact grC_last hlow HOB.out
  have HPU := Lib.hid hpush
  have HC0 := Lib.hid hc0
  have HL1 := Lib.hid hL1
  have HLOW := Lib.hid hlow
  clear hc0 hF hL1 hlow hpush
  go_wp2_with fail
  refine HOC.out.mono ?_
  rintro e w3 ⟨rfl, hb3⟩
  have HBM3 := Lib.hid (HBM.out.trans (hb3.mono HBM.out.size))
  have HO3 := Lib.hid (ownsRow_past HOM.out hb3)
  have HB3 := Lib.hid (HB2.out.trans (hb3.mono HB2.out.size))
  have HX := Lib.hid (HX.out.below hb3)
  have HREL := Lib.hid (HREL.out.below hb3)
  clear q0 q1
  have q0 := HX.out.2.1
  have q1 := HX.out.2.2
  have HSZ3 := Lib.hid hb3.size
  clear hb3
  go_upto_region 6 with fail
  refine wp_region_G 16 (fun w' : World => w'.cell? ⟨w1.heap.size, 0, none⟩ = some (.int .i64 low) ∧ w'.cell? ⟨w1.heap.size, 1, none⟩ = some (.slice (some ⟨g2, 0, none⟩) n n)) hmx ⟨q0, q1⟩ ?hW0
  intro hHeld
  simp only [List.length_cons, List.length_nil, List.replicate]
  refine walkG_take (i := 0) (v := ?v0) rfl (by kernel_rfl) (by kernel_rfl) (by kernel_rfl) (fun _ _ _ h => h) (Or.inl ⟨by rfl, ?hy0⟩) (by assumption) ?rest0
  case hy0 =>
    intro w hSw
    (try dsimp only at hSw)
    go_simp
    (try with_reducible rfl)
  try simp only [Act.put, List.setIfInBounds_toArray, List.set_cons_zero, List.set_cons_succ]
  refine walkG_take (i := 1) (v := ?v1) rfl (by kernel_rfl) (by kernel_rfl) (by kernel_rfl) (fun _ _ _ h => h) (Or.inl ⟨by rfl, ?hy1⟩) (by assumption) ?rest1
  case hy1 =>
    intro w hSw
    (try dsimp only at hSw)
    go_simp
    (try with_reducible rfl)
  try simp only [Act.put, List.setIfInBounds_toArray, List.set_cons_zero, List.set_cons_succ]
  refine walkG_take (i := 2) (v := ?v2) rfl (by kernel_rfl) (by kernel_rfl) (by kernel_rfl) (fun _ _ _ h => h) (Or.inl ⟨by rfl, ?hy2⟩) (by assumption) ?rest2
  case hy2 =>
    intro w hSw
    (try dsimp only at hSw)
    go_simp
    (try with_reducible rfl)
  try simp only [Act.put, List.setIfInBounds_toArray, List.set_cons_zero, List.set_cons_succ]
  refine walkG_take (i := 3) (v := ?v3) rfl (by kernel_rfl) (by kernel_rfl) (by kernel_rfl) (fun _ _ _ h => h) (Or.inl ⟨by rfl, ?hy3⟩) (by assumption) ?rest3
  case hy3 =>
    intro w hSw
    (try dsimp only at hSw)
    go_simp
    (try with_reducible rfl)
  try simp only [Act.put, List.setIfInBounds_toArray, List.set_cons_zero, List.set_cons_succ]
  refine walkG_take (i := 4) (v := ?v4) rfl (by kernel_rfl) (by kernel_rfl) (by kernel_rfl) (fun _ _ _ h => h) (Or.inl ⟨by rfl, ?hy4⟩) (by assumption) ?rest4
  case hy4 =>
    intro w hSw
    (try dsimp only at hSw)
    go_simp
    (try with_reducible rfl)
  try simp only [Act.put, List.setIfInBounds_toArray, List.set_cons_zero, List.set_cons_succ]
  refine walkG_take (i := 5) (v := ?v5) rfl (by kernel_rfl) (by kernel_rfl) (by kernel_rfl) (fun _ _ _ h => h) (Or.inl ⟨by rfl, ?hy5⟩) (by assumption) ?rest5
  case hy5 =>
    intro w hSw
    (try dsimp only at hSw)
    go_simp
    (try with_reducible rfl)
  try simp only [Act.put, List.setIfInBounds_toArray, List.set_cons_zero, List.set_cons_succ]
  refine walkG_take (i := 6) (v := ?v6) rfl (by kernel_rfl) (by kernel_rfl) (by kernel_rfl) (fun _ _ _ h => h) (Or.inl ⟨by rfl, ?hy6⟩) (by assumption) ?rest6
  case hy6 =>
    intro w hSw
    (try dsimp only at hSw)
    go_simp
    (try with_reducible rfl)
  try simp only [Act.put, List.setIfInBounds_toArray, List.set_cons_zero, List.set_cons_succ]
  refine walkG_one (i := 7) rfl (by decide) (by kernel_rfl) (fun K hK => ?_)
  go_simp
  refine (inverse_any _ _).mono ?_
  rintro e V5 ⟨rfl, rfl⟩
  go_wp2_with fail
  refine hK.out _ _ hHeld (fun hHeld1 => ?_)
  clear hK K hHeld1
  try simp only [List.setIfInBounds_toArray, List.set_cons_zero, List.set_cons_succ]
  refine walkG_one (i := 8) rfl (by decide) (by kernel_rfl) (fun K hK => ?_)
  go_simp
  have HDR : Hid (Below w3.heap.size w3 w3.drew) := Lib.hid (Below.refl _ _).drew
  have HBD := Lib.hid (HBM3.out.trans (HDR.out.mono HBM3.out.size))
  have HPW := Lib.hid (with_push gm cm s.size V1.heap.size s.data.toList (invB c0) w3.drew HPU.out (by simp) (by omega) HBD.out.size (ownsRow_past HO3.out HDR.out))
  refine HPW.out.mono ?_
  rintro e w4 ⟨g3, c3, rfl, hown4, hgr4⟩
  have hb4 : Below V1.heap.size V1 w4 := HBD.out.grown hgr4 HBD.out.size fun k e => by cases e; exact own_ge HO3.out gm rfl
  have HO4 := Lib.hid hown4
  have HB4 := Lib.hid hb4
  have hx4 := HX1.out.below hb4
  go_wp2_with fail
  refine hK.out _ _ ⟨hx4.2.1, hx4.2.2⟩ (fun hHeld1 => ?_)
  clear hK K hHeld hown4 hgr4 hb4 hx4
  try simp only [List.setIfInBounds_toArray, List.set_cons_zero, List.set_cons_succ]
  refine walkG_one (i := 9) rfl (by decide) (by kernel_rfl) (fun K hK => ?_)
  go_simp
  obtain ⟨W5, hW5⟩ : ∃ X, w4.alloc (.cells #[.slice (some ⟨g3, 0, none⟩) (s.size + 1) c3] WT) = X := ⟨_, rfl⟩
  have hb5 : Below w4.heap.size w4 W5 := by rw [← hW5]; exact (Below.refl _ _).alloc (Nat.le_refl _) _
  have HC5 : Hid (∀ j u, [Value.slice (some ⟨g3, 0, none⟩) (s.size + 1) c3][j]? = some u → W5.cell? ((⟨w4.heap.size, 0, none⟩ : Addr).add j) = some u) := Lib.hid (by rw [← hW5]; exact cell_one_new _ _ _)
  have hx5 := HX1.out.below (HB4.out.trans (hb5.mono HB4.out.size))
  rw [hW5]
  refine hK.out _ _ ⟨hx5.2.1, hx5.2.2⟩ (fun hHeld2 => ?_)
  clear hK K hHeld1 hx5
  try simp only [List.setIfInBounds_toArray, List.set_cons_zero, List.set_cons_succ]
  have HB5 := Lib.hid (HB4.out.trans (hb5.mono HB4.out.size))
  have HO5 := Lib.hid (ownsRow_past HO4.out hb5)
  have HR5 := Lib.hid (HREL1.out.below HB5.out)
  clear hb5
  refine walkG_one (i := 10) rfl (by decide) (by kernel_rfl) (fun K hK => ?_)
  refine Eq.mpr (if_pos (by kernel_rfl)) ?_
  obtain ⟨i0, hi0, hz0, hz1, hz2⟩ := info_parts infoWord
  refine wp_append_own _ _ _ 135 rfl W.heap.size WT i0 (.slice none 0 0) 1 24 Try.underlying135 hi0 hz0 hz1 hz2 rfl (by decide) (.slice (some ⟨g2, 0, none⟩) n n) n vs (by rfl) (by have h := HR5.out.row; rw [HN.out] at h; exact h) ⟨w4.heap.size, 0, none⟩ 1 1 [.slice (some ⟨g3, 0, none⟩) (s.size + 1) c3] (by rfl) rfl HC5.out (fun u hu => by simp at hu; subst hu; rfl) (by unfold maxLen; omega) (by omega) (by have h1 := HB1.out.size; have h2 := HB5.out.size; omega) ?_
  intro v6 w6 hown6 hgr6 _
  obtain ⟨g4, c4, rfl⟩ := ownsRow_succ hown6
  have HO6 := Lib.hid hown6
  have hsz6 := hgr6.size
  have hge2 := HGE.out
  have hbx := HX1.out.below HB5.out
  have hltX := hbx.1
  have hblk := hgr6.block w1.heap.size hltX (by intro e; first | exact hmne1 (Option.some.inj e) | exact hmne2 (Option.some.inj e))
  have x0 : w6.cell? ⟨w1.heap.size, 0, none⟩ = some (.int .i64 low) := (World.cell?_of_block (a := ⟨w1.heap.size, 0, none⟩) hblk).trans hbx.2.1
  have x1 : w6.cell? ⟨w1.heap.size, 1, none⟩ = some (.slice (some ⟨g2, 0, none⟩) n n) := (World.cell?_of_block (a := ⟨w1.heap.size, 1, none⟩) hblk).trans hbx.2.2
  have HB6 : Hid (Below W.heap.size W w6) := Lib.hid ((HB1.out.trans (HB5.out.mono HB1.out.size)).grown hgr6 (by have h1 := HB1.out.size; have h2 := HB5.out.size; omega) fun k e => by cases e; exact HGE.out)
  obtain ⟨R, hR⟩ : ∃ R, s.data.toList ++ [invB c0] = R := ⟨_, rfl⟩
  have hRl : R.length = s.size + 1 := by rw [← hR]; simp
  have hlv : vs.length = n := by rw [HREL1.out.len]; exact HN.out
  have hws : WsAt w6 g4 (vs ++ [.slice (some ⟨g3, 0, none⟩) (s.size + 1) c3]) ((zs.map fun z => z.data.toList) ++ [R]) := by
    have hoff : ∀ b o, b ≠ g2 → b < W5.heap.size → w6.cell? ⟨b, o, none⟩ = W5.cell? ⟨b, o, none⟩ := fun b o hne hlt => World.cell?_of_block (a := ⟨b, o, none⟩) (hgr6.block b hlt (by intro e; first | exact hne (Option.some.inj e) | exact hne (Option.some.inj e).symm))
    refine ⟨by rw [List.length_append, List.length_append, List.length_map, hlv, ← HN.out]; rfl, own_lt hown6 g4 rfl, fun t ht => ?_, fun t ht ht2 => ?_⟩
    · rw [List.length_append, hlv] at ht
      rw [hown6.cellAt t (by simpa using ht)]
      exact List.getElem?_eq_getElem (by rw [List.length_append, hlv]; exact ht)
    · rw [List.length_append, hlv] at ht
      by_cases e : t < n
      · have hv : t < vs.length := by omega
        have hz : t < zs.length := by have := HN.out; omega
        rw [List.getElem_append_left hv, List.getElem_append_left (by rw [List.length_map]; exact hz), List.getElem_map]
        have hw := HR5.out.word hv
        have e2 : zs.getD t ByteArray.empty = zs[t] := by rw [List.getD_eq_getElem?_getD, List.getElem?_eq_getElem hz]; rfl
        rw [e2] at hw
        obtain ⟨g, cap, e1, h1, h2, h3, h4⟩ := hw
        rw [e1]
        refine ⟨g, 0, cap, rfl, by omega, by omega, fun k hk => ?_⟩
        have hne : g ≠ g2 := fun e3 => by
          have h5 := h4 0 (by omega)
          have h6 := HR5.out.cell 0 (by omega)
          have h7 := HR5.out.word (j := 0) (by omega)
          obtain ⟨_, _, e7⟩ := h7.slice
          rw [e3, h6, e7] at h5
          cases h5
        rw [Nat.zero_add]
        exact (hoff g k hne h2).trans (h4 k hk)
      · obtain rfl : t = n := by simp at ht; omega
        rw [List.getElem_append_right (by omega), List.getElem_append_right (by rw [List.length_map]; have := HN.out; omega)]
        have hi1 : ∀ (h : t - vs.length < [Value.slice (some ⟨g3, 0, none⟩) (s.size + 1) c3].length), [Value.slice (some ⟨g3, 0, none⟩) (s.size + 1) c3][t - vs.length] = .slice (some ⟨g3, 0, none⟩) (s.size + 1) c3 := fun h => by simp
        have hi2 : ∀ (h : t - (zs.map fun z => z.data.toList).length < [R].length), [R][t - (zs.map fun z => z.data.toList).length] = R := fun h => by simp
        rw [hi1, hi2]
        have ho5 := HO5.out
        rw [hR] at ho5
        have hg3 : V1.heap.size ≤ g3 ∧ g3 < W5.heap.size := ⟨own_ge ho5 g3 rfl, own_lt ho5 g3 rfl⟩
        have hw := isWord_of_owns (n₀ := W5.heap.size) (l := R) hRl (by omega) ho5 (Nat.le_refl _)
        obtain ⟨g, off, cap, e1, h1, h2, h3⟩ := hw
        simp only [Value.slice.injEq, Option.some.injEq, Addr.mk.injEq] at e1
        obtain ⟨⟨rfl, rfl, _⟩, e2, rfl⟩ := e1
        exact ⟨g3, 0, c3, by rw [e2], by omega, h2, fun k hk => (hoff g3 (0 + k) (by have h5 := HREL1.out.lt.2; omega) (by omega)).trans (h3 k hk)⟩
  obtain ⟨Z, hZ⟩ : ∃ Z, grownZ low zs s = Z := ⟨_, rfl⟩
  have hbm : ((zs.map fun z => z.data.toList) ++ [R]).map bstr = Z := by
    rw [← hZ, List.map_append, List.map_map]
    unfold grownZ grS
    rw [← hR, HC0.out]
    congr 1
    refine (List.map_congr_left fun z _ => ?_).trans (List.map_id _)
    exact bstr_of z
  obtain ⟨b, hb⟩ : ∃ b, groupB L1 Z = b := ⟨_, rfl⟩
  have HBE : Hid (grownB low zs s = b) := Lib.hid (by unfold grownB; rw [HBG.out, HWD.out, HOB.out, hZ, HL1.out, hb]; rfl)
  have HZ := Lib.hid hZ
  have HTO := Lib.hid (toldG_any L1 g4 c4 (n + 1) _ _ b w6 hws (by rw [List.length_append, List.length_map, HN.out]; rfl) (by omega) (fun l hl => by
    rcases List.mem_append.1 hl with h | h
    · obtain ⟨z, hz, rfl⟩ := List.mem_map.1 h
      have := ((wordB_iff _).1 (HRG.out.2.2 z hz).1).1
      omega
    · obtain rfl := List.mem_singleton.1 h; omega) (by rw [hbm]; exact hb))
  rw [hbm] at HTO
  have X0 := Lib.hid x0
  have X1 := Lib.hid x1
  have HLX := Lib.hid hltX
  refine hK.out _ _ ⟨x0, x1⟩ (fun hHeld3 => ?_)
  clear hK K hHeld2 hown6 hgr6 hbx hblk hltX x0 x1 hws hbm hb hZ hR hRl hlv hge2
  try simp only [List.setIfInBounds_toArray, List.set_cons_zero, List.set_cons_succ]
  refine walkG_take (i := 11) (v := ?v11) rfl (by kernel_rfl) (by kernel_rfl) (by kernel_rfl) (fun _ _ _ h => h) (Or.inl ⟨by rfl, ?hy11⟩) (by assumption) ?rest11
  case hy11 =>
    intro w hSw
    (try dsimp only at hSw)
    go_simp
    (try with_reducible rfl)
  try simp only [Act.put, List.setIfInBounds_toArray, List.set_cons_zero, List.set_cons_succ]
  refine walkG_one (i := 12) rfl (by decide) (by kernel_rfl) (fun K hK => ?_)
  go_simp
  refine HTO.out.mono ?_
  rintro e w7 ⟨⟨v, rfl, hgr⟩, hb7⟩
  obtain ⟨D, hD⟩ : ∃ D, doneG b ⟨L1, Z⟩ = D := ⟨_, rfl⟩
  rw [hD] at hgr ⊢
  obtain ⟨aq, _, cq, rfl, _⟩ := hgr.shape
  obtain ⟨L, hL⟩ : ∃ L, D.cs.length = L := ⟨_, rfl⟩
  rw [hL] at hgr ⊢
  have HGR := Lib.hid hgr
  have HB7 := Lib.hid (HB6.out.trans (hb7.mono HB6.out.size))
  have y0 : w7.cell? ⟨w1.heap.size, 0, none⟩ = some (.int .i64 low) := (hb7.cell (p := ⟨w1.heap.size, 0, none⟩) (Nat.lt_of_lt_of_le HLX.out hsz6)).trans X0.out
  have y1 : w7.cell? ⟨w1.heap.size, 1, none⟩ = some (.slice (some ⟨g2, 0, none⟩) n n) := (hb7.cell (p := ⟨w1.heap.size, 1, none⟩) (Nat.lt_of_lt_of_le HLX.out hsz6)).trans X1.out
  have Y0 := Lib.hid y0
  have Y1 := Lib.hid y1
  go_wp2_with fail
  refine hK.out _ _ ⟨y0, y1⟩ (fun hHeld4 => ?_)
  clear hK K hHeld3 hb7 hgr y0 y1
  try simp only [List.setIfInBounds_toArray, List.set_cons_zero, List.set_cons_succ]
  have hneX : w1.heap.size ≠ w.heap.size + 1 := by have h1 := HB1.out.size; have h2 := HSZ.out; have h3 := HX1.out.1; have h4 := HWL.out; omega
  have HS8 : Hid (∀ u v : Value, ((w7.setCell ⟨w.heap.size + 1, 0, none⟩ u).setCell ⟨w.heap.size + 1, 1, none⟩ v).cell? ⟨w1.heap.size, 0, none⟩ = some (.int .i64 low) ∧ ((w7.setCell ⟨w.heap.size + 1, 0, none⟩ u).setCell ⟨w.heap.size + 1, 1, none⟩ v).cell? ⟨w1.heap.size, 1, none⟩ = some (.slice (some ⟨g2, 0, none⟩) n n)) := Lib.hid fun u v =>
    ⟨((World.cell?_of_block (a := ⟨w1.heap.size, 0, none⟩) (Below.heap_setCell _ ⟨w.heap.size + 1, 1, none⟩ _ _ hneX)).trans (World.cell?_of_block (a := ⟨w1.heap.size, 0, none⟩) (Below.heap_setCell _ ⟨w.heap.size + 1, 0, none⟩ _ _ hneX))).trans Y0.out, ((World.cell?_of_block (a := ⟨w1.heap.size, 1, none⟩) (Below.heap_setCell _ ⟨w.heap.size + 1, 1, none⟩ _ _ hneX)).trans (World.cell?_of_block (a := ⟨w1.heap.size, 1, none⟩) (Below.heap_setCell _ ⟨w.heap.size + 1, 0, none⟩ _ _ hneX))).trans Y1.out⟩
  clear hneX
  obtain ⟨_, d0, d1, f0, f1⟩ := HC.out w7 HB7.out
  refine walkG_take (i := 13) (v := ?v13) rfl (by kernel_rfl) (by kernel_rfl) (by kernel_rfl) (fun _ _ _ h => h) (Or.inl ⟨by rfl, ?hy13⟩) (by assumption) ?rest13
  case hy13 =>
    intro w hSw
    (try dsimp only at hSw)
    go_simp
    (try with_reducible rfl)
  try simp only [Act.put, List.setIfInBounds_toArray, List.set_cons_zero, List.set_cons_succ]
  refine walkG_take (i := 14) (v := ?v14) rfl (by kernel_rfl) (by kernel_rfl) (by kernel_rfl) (fun _ _ _ h => h) (Or.inl ⟨by rfl, ?hy14⟩) (by assumption) ?rest14
  case hy14 =>
    intro w hSw
    (try dsimp only at hSw)
    go_simp
    (try with_reducible rfl)
  try simp only [Act.put, List.setIfInBounds_toArray, List.set_cons_zero, List.set_cons_succ]
  refine walkG_one (i := 15) rfl (by decide) (by kernel_rfl) (fun K hK => ?_)
  go_simp
  refine hK.out _ _ (HS8.out _ _) (fun hHeld5 => ?_)
  clear hK K hHeld4
  try simp only [List.setIfInBounds_toArray, List.set_cons_zero, List.set_cons_succ]
  refine walkG_last rfl (by kernel_rfl) (by kernel_rfl) (fun K hK => ?_) _
  go_simp
  refine hK.out _ _ ?_
  clear hK K hHeld5
  have HFIN : Hid (ToldG w (grownB low zs s) ⟨low + 1, grownZ low zs s⟩ (.returned (.tuple #[plV D.low (.slice aq L cq), .bool b])) ((w7.setCell ⟨w.heap.size + 1, 0, none⟩ (.int .i64 D.low)).setCell ⟨w.heap.size + 1, 1, none⟩ (.slice aq L cq))) := Lib.hid (by
    rw [HBE.out, HZ.out, HL1.out]
    have h2 := HSZ.out
    have h3 := HB6.out.size
    have hk : ∀ k, (Value.slice aq L cq).ownBlock = some k → w.heap.size + 1 < k := fun k e => by have h1 := own_ge HGR.out.1 k e; omega
    exact ⟨⟨_, by rw [hD], by rw [hD]; exact ((HGR.out.mono (by omega)).set hk).set hk⟩, ((HBW.out.trans (HB7.out.mono HBW.out.size)).setCell (p := ⟨w.heap.size + 1, 0, none⟩) (by show w.heap.size ≤ w.heap.size + 1; omega) _).setCell (p := ⟨w.heap.size + 1, 1, none⟩) (by show w.heap.size ≤ w.heap.size + 1; omega) _⟩)
  clear hD hL
  go_wp2
  refine bodyPost_ret (v := .tuple #[plV D.low (.slice aq L cq), .bool b]) ?_ rfl HFIN.out
  simp [results, Try.results86, go_sem, d0, d1, plV]

end Go.Proofs.Ytbbkpaledlbcmaa

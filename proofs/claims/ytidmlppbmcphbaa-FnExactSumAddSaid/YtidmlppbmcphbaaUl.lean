/- What the laws on lists of terms need about rows of the call's own. -/
import Derived.Test.YtidmlppbmcphbaaTz
import Derived.Test.YtidmlppbmcphbaaUc
import Derived.Test.YtidmlppbmcphbaaJc
namespace Go.Proofs.Ytidmlppbmcphbaa
open Go.RowKit Go.Shelf

theorem isTerms_owns {w : World} {base g cap n : Nat} {a : Option Addr} {w0 : World} {ts : List Tm} (h0 : IsTerms w0 a n ts) (h : w.ownsRow base TI 2 (.slice (some ⟨g, 0, none⟩) n cap) n (termsV ts)) : IsTerms w (some ⟨g, 0, none⟩) n ts :=
  ⟨h0.len, h0.max, fun _ => ⟨_, rfl, termsAt_of_owns h0.len h⟩, h0.small⟩
theorem ownIsTerms {base : Nat} {w : World} {a : Option Addr} {n c : Nat} {ts : List Tm} (h : OwnT base w (.slice a n c) ts) (hs : SmallT ts) : IsTerms w a n ts := by
  obtain ⟨a', c', e, hI⟩ := h.isTerms hs
  simp only [Value.slice.injEq] at e
  obtain ⟨rfl, rfl, rfl⟩ := e
  exact hI
theorem IsTerms.smallT {w : World} {a : Option Addr} {n : Nat} {ts : List Tm} (h : IsTerms w a n ts) : SmallT ts := ⟨by rw [h.len]; exact h.max, h.small⟩
theorem OwnT.keptBy {base : Nat} {w w' : World} {v : Value} {ts : List Tm} {row : Option Nat} (h : OwnT base w v ts) (hg : w.grownBy w' row) (hne : v.ownBlock = row → False) : OwnT base w' v ts := h.kept hg (.inr hne)
theorem OwnS.keptBy {base : Nat} {w w' : World} {v : Value} {ts : List ByteArray} {row : Option Nat} (h : OwnS base w v ts) (hg : w.grownBy w' row) (hne : v.ownBlock = row → False) : OwnS base w' v ts := h.kept hg (.inr hne)
theorem IsStrs.below {w w' : World} {a : Option Addr} {n : Nat} {zs : List ByteArray} (h : IsStrs w a n zs) (hb : Below w.heap.size w w') : IsStrs w' a n zs := ⟨h.len, h.max, h.at_.below hb⟩
theorem isStrs_owns {w : World} {base g n : Nat} {a : Option Addr} {w0 : World} {zs : List ByteArray} (h0 : IsStrs w0 a n zs) (h : w.ownsRow base 9 1 (.slice (some ⟨g, 0, none⟩) n n) n (strsV zs)) : IsStrs w (some ⟨g, 0, none⟩) n zs :=
  ⟨h0.len, h0.max, (strsAt_of_owns h0.len h h0.at_.small).1⟩
theorem ownIsStrs {base : Nat} {w w0 : World} {a : Option Addr} {g n : Nat} {zs : List ByteArray} (h0 : IsStrs w0 a n zs) (h : OwnS base w (.slice (some ⟨g, 0, none⟩) n n) zs) : StrsAt w (some ⟨g, 0, none⟩) zs := by
  unfold OwnS at h
  rw [h0.len] at h
  exact (strsAt_of_owns h0.len h h0.at_.small).1

end Go.Proofs.Ytidmlppbmcphbaa

/-
  DERIVED. GIVEN WITH THE SEED: THE CARDS: each row of YtmbffbjopehllaaDoorRows.lean that lists a variable, with what it lists TIED to the program's text (the seventh form; the later family's looks); each row that meets fmt, with fmt's text TOLD by the authors' own Lean function (tested against real Go, not proved from fmt's source: count such statements apart). THE CARD IS WHAT COUNTS. Prove the row's statement (the work); the ties are given (YtmbffbjopehllaaDoorTie.lean); close each card by the builder's one call (the guide's Derived/Test/ToyasCard.lean, 'card_holds'). Laid BY PROGRAM, IN A SANDBOX (cutbox-door.mjs). By AI agents, Wed Nov 11 2026. No macro, syntax, notation, axiom, sorry.
-/
import Derived.Test.YtmbffbjopehllaaDoorRows
import GoSem.ClaimSeven
namespace Go.Proofs.YtmbffbjopehllaaDoor
namespace Rows

/-- THE TIED CARD OF 'laws.FnExactSeriesTurned'. -/
def fnExactSeriesTurnedCard : Claim7 := { stood := { row := fnExactSeriesTurnedRow, standIns := [], harness := (true, "2c715b7ca0ff8ff2d0c49b323dca1acfbb0df5fadf0e34a10a8ea0e77397b7a7"), looks := true }, kinds := [], alts := [], laidByText := true, laidKinds := [.handle], laidTests := true, laidLooks := .later }
def FnExactSeriesTurnedCardSaid : Prop := Claim7.holds Tryd.pinned (.plain (OpenSpec.ofChange fnExactSeriesTurnedSpec)) fnExactSeriesTurnedCard

/-- THE SECOND FORM's CARD OF 'laws.FnExactSeriesTurned'. -/
def fnExactSeriesTurnedUptoCard : Claim7 := { stood := { row := fnExactSeriesTurnedUptoRow, standIns := [], harness := (true, "2c715b7ca0ff8ff2d0c49b323dca1acfbb0df5fadf0e34a10a8ea0e77397b7a7"), looks := true }, kinds := [], alts := [], laidByText := true, laidKinds := [.handle], laidTests := true, laidLooks := .later }
def FnExactSeriesTurnedUptoCardSaid : Prop := Claim7.holds Tryd.pinned (.plain (OpenSpec.upto fnExactSeriesTurnedSpec)) fnExactSeriesTurnedUptoCard
end Rows
end Go.Proofs.YtmbffbjopehllaaDoor

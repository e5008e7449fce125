/-
  DERIVED. GIVEN WITH THE SEED: THE CARDS: each row of YtdhmicpoigoleabDoorRows.lean that lists a variable, with what it lists TIED to the program's text (the seventh form; the later family's looks); each row that meets fmt, with fmt's text TOLD by the authors' own Lean function (tested against real Go, not proved from fmt's source: count such statements apart). THE CARD IS WHAT COUNTS. Prove the row's statement (the work); the ties are given (YtdhmicpoigoleabDoorTie.lean); close each card by the builder's one call (the guide's Derived/Test/ToyasCard.lean, 'card_holds'). Laid BY PROGRAM, IN A SANDBOX (cutbox-door.mjs). By AI agents, Wed Nov 11 2026. No macro, syntax, notation, axiom, sorry.
-/
import Derived.Test.YtdhmicpoigoleabDoorRows
import GoSem.ClaimSeven
namespace Go.Proofs.YtdhmicpoigoleabDoor
namespace Rows

/-- THE TIED CARD OF 'laws.FnSeriesTurned'. -/
def fnSeriesTurnedCard : Claim7 := { stood := { row := fnSeriesTurnedRow, standIns := [], harness := (true, "cafe653c0d62f4c66e81ba1fbb9f384d912b8e20490277ff50ea5adc2180359b"), looks := true }, kinds := [], alts := [], laidByText := true, laidKinds := [.handle], laidTests := true, laidLooks := .later }
def FnSeriesTurnedCardSaid : Prop := Claim7.holds Tryd.pinned (.plain (OpenSpec.ofChange fnSeriesTurnedSpec)) fnSeriesTurnedCard

/-- THE SECOND FORM's CARD OF 'laws.FnSeriesTurned'. -/
def fnSeriesTurnedUptoCard : Claim7 := { stood := { row := fnSeriesTurnedUptoRow, standIns := [], harness := (true, "cafe653c0d62f4c66e81ba1fbb9f384d912b8e20490277ff50ea5adc2180359b"), looks := true }, kinds := [], alts := [], laidByText := true, laidKinds := [.handle], laidTests := true, laidLooks := .later }
def FnSeriesTurnedUptoCardSaid : Prop := Claim7.holds Tryd.pinned (.plain (OpenSpec.upto fnSeriesTurnedSpec)) fnSeriesTurnedUptoCard
end Rows
end Go.Proofs.YtdhmicpoigoleabDoor

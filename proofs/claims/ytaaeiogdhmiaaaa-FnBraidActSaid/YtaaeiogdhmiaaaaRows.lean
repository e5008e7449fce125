/-
  No cell of these rows narrows 'for every input' (looked for: loops, veiled, ifaces, maps, wideKeys, modest, calm, conditions, laid).
  DERIVED. THE GIVEN ROWS OF THIS SEAT. 19 by the template 'for every input the law returns true; each argument reads behind the call as it read before'; 0 by the template 'total and deterministic' (their statements: YtaaeiogdhmiaaaaTotals.lean).
  GIVEN WITH THE SEED: the statements are not yours to turn. If you find one false, say at which input.
  Laid BY PROGRAM, IN A SANDBOX (cutbox-rows.mjs): the forced cells as the released guide's own fill.sh prints them over the translation fe416edfb60f880e… (all of the seat's roots in one cut). By AI agents, Wed Nov 11 2026. No macro, syntax, notation, axiom, sorry.
-/
import Derived.Test.YtaaeiogdhmiaaaaChecked
import GoSem.Claim
import GoSem.ClaimJoined
import GoSem.ClaimMapViews
import Derived.JoinedTies
import Derived.KernelRfl
namespace Go.Proofs.Ytaaeiogdhmiaaaa
/- THE CELL 'sum', in the pinned program and in every row, IS THE sha256 OF THE DUMP (.gsa) THAT YtaaeiogdhmiaaaaProg.lean LOADS. Nothing in Lean hashes anything: it is a label: what it is worth is what the hold of that sum in a sandbox is worth. -/
noncomputable def Try.pinned : Pinned := { name := "ytaaeiogdhmiaaaa", sum := "fe416edfb60f880ef129939ca8094406f5dd890af826109d2e4bb936bfc970b1", checked := Try.checked }
namespace Rows
def none {H : Type} : Left H := { results := [], args := [] }

/-- 'laws.FnExactBraidIn': WHATEVER THE INPUT: true; the input reads as it did. -/
def fnExactBraidInSpec : ChangeSpec := { name := "fnExactBraidIn", fn := fun _ => fun
  | [d] => { results := [.lit (.bool true)], args := [d] }
  | _ => none }
def fnExactBraidInRow : OpenClaim := { program := "ytaaeiogdhmiaaaa", sum := "fe416edfb60f880ef129939ca8094406f5dd890af826109d2e4bb936bfc970b1", func := "loop.example/foxcalculus/laws.FnExactBraidIn", spec := "fnExactBraidIn", unfollowed := true, recurses := true, apart := false }
def FnExactBraidInSaid : Prop := fnExactBraidInRow.holds Try.pinned (OpenSpec.ofChange fnExactBraidInSpec)

/-- ITS FALSE NEIGHBOUR: 'it returns false'. Refute it at one input. -/
def fnExactBraidInWrong : ChangeSpec := { name := "fnExactBraidIn", fn := fun _ => fun
  | [d] => { results := [.lit (.bool false)], args := [d] }
  | _ => none }
def FnExactBraidInWrongFalsely : Prop := fnExactBraidInRow.holds Try.pinned (OpenSpec.ofChange fnExactBraidInWrong)

/-- 'laws.FnExactBraidTimes': WHATEVER THE INPUT: true; the input reads as it did. -/
def fnExactBraidTimesSpec : ChangeSpec := { name := "fnExactBraidTimes", fn := fun _ => fun
  | [d1, d2] => { results := [.lit (.bool true)], args := [d1, d2] }
  | _ => none }
def fnExactBraidTimesRow : OpenClaim := { program := "ytaaeiogdhmiaaaa", sum := "fe416edfb60f880ef129939ca8094406f5dd890af826109d2e4bb936bfc970b1", func := "loop.example/foxcalculus/laws.FnExactBraidTimes", spec := "fnExactBraidTimes", unfollowed := true, recurses := true, apart := false }
def FnExactBraidTimesSaid : Prop := fnExactBraidTimesRow.holds Try.pinned (OpenSpec.ofChange fnExactBraidTimesSpec)

/-- ITS FALSE NEIGHBOUR: 'it returns false'. Refute it at one input. -/
def fnExactBraidTimesWrong : ChangeSpec := { name := "fnExactBraidTimes", fn := fun _ => fun
  | [d1, d2] => { results := [.lit (.bool false)], args := [d1, d2] }
  | _ => none }
def FnExactBraidTimesWrongFalsely : Prop := fnExactBraidTimesRow.holds Try.pinned (OpenSpec.ofChange fnExactBraidTimesWrong)

/-- 'laws.FnExactBraidTurned': WHATEVER THE INPUT: true; the input reads as it did. -/
def fnExactBraidTurnedSpec : ChangeSpec := { name := "fnExactBraidTurned", fn := fun _ => fun
  | [d] => { results := [.lit (.bool true)], args := [d] }
  | _ => none }
def fnExactBraidTurnedRow : OpenClaim := { program := "ytaaeiogdhmiaaaa", sum := "fe416edfb60f880ef129939ca8094406f5dd890af826109d2e4bb936bfc970b1", func := "loop.example/foxcalculus/laws.FnExactBraidTurned", spec := "fnExactBraidTurned", unfollowed := true, recurses := true, apart := false }
def FnExactBraidTurnedSaid : Prop := fnExactBraidTurnedRow.holds Try.pinned (OpenSpec.ofChange fnExactBraidTurnedSpec)

/-- ITS FALSE NEIGHBOUR: 'it returns false'. Refute it at one input. -/
def fnExactBraidTurnedWrong : ChangeSpec := { name := "fnExactBraidTurned", fn := fun _ => fun
  | [d] => { results := [.lit (.bool false)], args := [d] }
  | _ => none }
def FnExactBraidTurnedWrongFalsely : Prop := fnExactBraidTurnedRow.holds Try.pinned (OpenSpec.ofChange fnExactBraidTurnedWrong)

/-- 'laws.FnExactBraidAct': WHATEVER THE INPUT: true; the input reads as it did. -/
def fnExactBraidActSpec : ChangeSpec := { name := "fnExactBraidAct", fn := fun _ => fun
  | [d1, d2] => { results := [.lit (.bool true)], args := [d1, d2] }
  | _ => none }
def fnExactBraidActRow : OpenClaim := { program := "ytaaeiogdhmiaaaa", sum := "fe416edfb60f880ef129939ca8094406f5dd890af826109d2e4bb936bfc970b1", func := "loop.example/foxcalculus/laws.FnExactBraidAct", spec := "fnExactBraidAct", unfollowed := true, recurses := true, apart := false }
def FnExactBraidActSaid : Prop := fnExactBraidActRow.holds Try.pinned (OpenSpec.ofChange fnExactBraidActSpec)

/-- ITS FALSE NEIGHBOUR: 'it returns false'. Refute it at one input. -/
def fnExactBraidActWrong : ChangeSpec := { name := "fnExactBraidAct", fn := fun _ => fun
  | [d1, d2] => { results := [.lit (.bool false)], args := [d1, d2] }
  | _ => none }
def FnExactBraidActWrongFalsely : Prop := fnExactBraidActRow.holds Try.pinned (OpenSpec.ofChange fnExactBraidActWrong)

/-- 'laws.FnExactBraidPerm': WHATEVER THE INPUT: true; the input reads as it did. -/
def fnExactBraidPermSpec : ChangeSpec := { name := "fnExactBraidPerm", fn := fun _ => fun
  | [d] => { results := [.lit (.bool true)], args := [d] }
  | _ => none }
def fnExactBraidPermRow : OpenClaim := { program := "ytaaeiogdhmiaaaa", sum := "fe416edfb60f880ef129939ca8094406f5dd890af826109d2e4bb936bfc970b1", func := "loop.example/foxcalculus/laws.FnExactBraidPerm", spec := "fnExactBraidPerm", unfollowed := true, recurses := true, apart := false }
def FnExactBraidPermSaid : Prop := fnExactBraidPermRow.holds Try.pinned (OpenSpec.ofChange fnExactBraidPermSpec)

/-- ITS FALSE NEIGHBOUR: 'it returns false'. Refute it at one input. -/
def fnExactBraidPermWrong : ChangeSpec := { name := "fnExactBraidPerm", fn := fun _ => fun
  | [d] => { results := [.lit (.bool false)], args := [d] }
  | _ => none }
def FnExactBraidPermWrongFalsely : Prop := fnExactBraidPermRow.holds Try.pinned (OpenSpec.ofChange fnExactBraidPermWrong)

/-- 'laws.FnExactBraidSum': WHATEVER THE INPUT: true; the input reads as it did. -/
def fnExactBraidSumSpec : ChangeSpec := { name := "fnExactBraidSum", fn := fun _ => fun
  | [d] => { results := [.lit (.bool true)], args := [d] }
  | _ => none }
def fnExactBraidSumRow : OpenClaim := { program := "ytaaeiogdhmiaaaa", sum := "fe416edfb60f880ef129939ca8094406f5dd890af826109d2e4bb936bfc970b1", func := "loop.example/foxcalculus/laws.FnExactBraidSum", spec := "fnExactBraidSum", unfollowed := true, recurses := true, apart := false }
def FnExactBraidSumSaid : Prop := fnExactBraidSumRow.holds Try.pinned (OpenSpec.ofChange fnExactBraidSumSpec)

/-- ITS FALSE NEIGHBOUR: 'it returns false'. Refute it at one input. -/
def fnExactBraidSumWrong : ChangeSpec := { name := "fnExactBraidSum", fn := fun _ => fun
  | [d] => { results := [.lit (.bool false)], args := [d] }
  | _ => none }
def FnExactBraidSumWrongFalsely : Prop := fnExactBraidSumRow.holds Try.pinned (OpenSpec.ofChange fnExactBraidSumWrong)

/-- 'laws.FnExactBraidGrow': WHATEVER THE INPUT: true; the input reads as it did. -/
def fnExactBraidGrowSpec : ChangeSpec := { name := "fnExactBraidGrow", fn := fun _ => fun
  | [d1, d2] => { results := [.lit (.bool true)], args := [d1, d2] }
  | _ => none }
def fnExactBraidGrowRow : OpenClaim := { program := "ytaaeiogdhmiaaaa", sum := "fe416edfb60f880ef129939ca8094406f5dd890af826109d2e4bb936bfc970b1", func := "loop.example/foxcalculus/laws.FnExactBraidGrow", spec := "fnExactBraidGrow", unfollowed := true, recurses := true, apart := false }
def FnExactBraidGrowSaid : Prop := fnExactBraidGrowRow.holds Try.pinned (OpenSpec.ofChange fnExactBraidGrowSpec)

/-- ITS FALSE NEIGHBOUR: 'it returns false'. Refute it at one input. -/
def fnExactBraidGrowWrong : ChangeSpec := { name := "fnExactBraidGrow", fn := fun _ => fun
  | [d1, d2] => { results := [.lit (.bool false)], args := [d1, d2] }
  | _ => none }
def FnExactBraidGrowWrongFalsely : Prop := fnExactBraidGrowRow.holds Try.pinned (OpenSpec.ofChange fnExactBraidGrowWrong)

/-- 'laws.FnExactBraidKnot': WHATEVER THE INPUT: true; the input reads as it did. -/
def fnExactBraidKnotSpec : ChangeSpec := { name := "fnExactBraidKnot", fn := fun _ => fun
  | [d] => { results := [.lit (.bool true)], args := [d] }
  | _ => none }
def fnExactBraidKnotRow : OpenClaim := { program := "ytaaeiogdhmiaaaa", sum := "fe416edfb60f880ef129939ca8094406f5dd890af826109d2e4bb936bfc970b1", func := "loop.example/foxcalculus/laws.FnExactBraidKnot", spec := "fnExactBraidKnot", unfollowed := true, recurses := true, apart := false }
def FnExactBraidKnotSaid : Prop := fnExactBraidKnotRow.holds Try.pinned (OpenSpec.ofChange fnExactBraidKnotSpec)

/-- ITS FALSE NEIGHBOUR: 'it returns false'. Refute it at one input. -/
def fnExactBraidKnotWrong : ChangeSpec := { name := "fnExactBraidKnot", fn := fun _ => fun
  | [d] => { results := [.lit (.bool false)], args := [d] }
  | _ => none }
def FnExactBraidKnotWrongFalsely : Prop := fnExactBraidKnotRow.holds Try.pinned (OpenSpec.ofChange fnExactBraidKnotWrong)

/-- 'laws.FnExactBraidGroup': WHATEVER THE INPUT: true; the input reads as it did. -/
def fnExactBraidGroupSpec : ChangeSpec := { name := "fnExactBraidGroup", fn := fun _ => fun
  | [d] => { results := [.lit (.bool true)], args := [d] }
  | _ => none }
def fnExactBraidGroupRow : OpenClaim := { program := "ytaaeiogdhmiaaaa", sum := "fe416edfb60f880ef129939ca8094406f5dd890af826109d2e4bb936bfc970b1", func := "loop.example/foxcalculus/laws.FnExactBraidGroup", spec := "fnExactBraidGroup", unfollowed := true, recurses := true, apart := false }
def FnExactBraidGroupSaid : Prop := fnExactBraidGroupRow.holds Try.pinned (OpenSpec.ofChange fnExactBraidGroupSpec)

/-- ITS FALSE NEIGHBOUR: 'it returns false'. Refute it at one input. -/
def fnExactBraidGroupWrong : ChangeSpec := { name := "fnExactBraidGroup", fn := fun _ => fun
  | [d] => { results := [.lit (.bool false)], args := [d] }
  | _ => none }
def FnExactBraidGroupWrongFalsely : Prop := fnExactBraidGroupRow.holds Try.pinned (OpenSpec.ofChange fnExactBraidGroupWrong)

/-- 'laws.FnExactGroupSums': WHATEVER THE INPUT: true; the input reads as it did. -/
def fnExactGroupSumsSpec : ChangeSpec := { name := "fnExactGroupSums", fn := fun _ => fun
  | [d] => { results := [.lit (.bool true)], args := [d] }
  | _ => none }
def fnExactGroupSumsRow : OpenClaim := { program := "ytaaeiogdhmiaaaa", sum := "fe416edfb60f880ef129939ca8094406f5dd890af826109d2e4bb936bfc970b1", func := "loop.example/foxcalculus/laws.FnExactGroupSums", spec := "fnExactGroupSums", unfollowed := true, recurses := true, apart := false }
def FnExactGroupSumsSaid : Prop := fnExactGroupSumsRow.holds Try.pinned (OpenSpec.ofChange fnExactGroupSumsSpec)

/-- ITS FALSE NEIGHBOUR: 'it returns false'. Refute it at one input. -/
def fnExactGroupSumsWrong : ChangeSpec := { name := "fnExactGroupSums", fn := fun _ => fun
  | [d] => { results := [.lit (.bool false)], args := [d] }
  | _ => none }
def FnExactGroupSumsWrongFalsely : Prop := fnExactGroupSumsRow.holds Try.pinned (OpenSpec.ofChange fnExactGroupSumsWrong)

/-- 'laws.FnBraid': WHATEVER THE INPUT: true; the input reads as it did. -/
def fnBraidSpec : ChangeSpec := { name := "fnBraid", fn := fun _ => fun
  | [d] => { results := [.lit (.bool true)], args := [d] }
  | _ => none }
def fnBraidRow : OpenClaim := { program := "ytaaeiogdhmiaaaa", sum := "fe416edfb60f880ef129939ca8094406f5dd890af826109d2e4bb936bfc970b1", func := "loop.example/foxcalculus/laws.FnBraid", spec := "fnBraid", unfollowed := true, recurses := true, apart := false }
def FnBraidSaid : Prop := fnBraidRow.holds Try.pinned (OpenSpec.ofChange fnBraidSpec)

/-- ITS FALSE NEIGHBOUR: 'it returns false'. Refute it at one input. -/
def fnBraidWrong : ChangeSpec := { name := "fnBraid", fn := fun _ => fun
  | [d] => { results := [.lit (.bool false)], args := [d] }
  | _ => none }
def FnBraidWrongFalsely : Prop := fnBraidRow.holds Try.pinned (OpenSpec.ofChange fnBraidWrong)

/-- 'laws.FnRelations': WHATEVER THE INPUT: true; the input reads as it did. -/
def fnRelationsSpec : ChangeSpec := { name := "fnRelations", fn := fun _ => fun
  | [d] => { results := [.lit (.bool true)], args := [d] }
  | _ => none }
def fnRelationsRow : OpenClaim := { program := "ytaaeiogdhmiaaaa", sum := "fe416edfb60f880ef129939ca8094406f5dd890af826109d2e4bb936bfc970b1", func := "loop.example/foxcalculus/laws.FnRelations", spec := "fnRelations", unfollowed := true, recurses := true, apart := false }
def FnRelationsSaid : Prop := fnRelationsRow.holds Try.pinned (OpenSpec.ofChange fnRelationsSpec)

/-- ITS FALSE NEIGHBOUR: 'it returns false'. Refute it at one input. -/
def fnRelationsWrong : ChangeSpec := { name := "fnRelations", fn := fun _ => fun
  | [d] => { results := [.lit (.bool false)], args := [d] }
  | _ => none }
def FnRelationsWrongFalsely : Prop := fnRelationsRow.holds Try.pinned (OpenSpec.ofChange fnRelationsWrong)

/-- 'laws.FnFar': WHATEVER THE INPUT: true; the input reads as it did. -/
def fnFarSpec : ChangeSpec := { name := "fnFar", fn := fun _ => fun
  | [d] => { results := [.lit (.bool true)], args := [d] }
  | _ => none }
def fnFarRow : OpenClaim := { program := "ytaaeiogdhmiaaaa", sum := "fe416edfb60f880ef129939ca8094406f5dd890af826109d2e4bb936bfc970b1", func := "loop.example/foxcalculus/laws.FnFar", spec := "fnFar", unfollowed := true, recurses := true, apart := false }
def FnFarSaid : Prop := fnFarRow.holds Try.pinned (OpenSpec.ofChange fnFarSpec)

/-- ITS FALSE NEIGHBOUR: 'it returns false'. Refute it at one input. -/
def fnFarWrong : ChangeSpec := { name := "fnFar", fn := fun _ => fun
  | [d] => { results := [.lit (.bool false)], args := [d] }
  | _ => none }
def FnFarWrongFalsely : Prop := fnFarRow.holds Try.pinned (OpenSpec.ofChange fnFarWrong)

/-- 'laws.FnBraidTimes': WHATEVER THE INPUT: true; the input reads as it did. -/
def fnBraidTimesSpec : ChangeSpec := { name := "fnBraidTimes", fn := fun _ => fun
  | [d] => { results := [.lit (.bool true)], args := [d] }
  | _ => none }
def fnBraidTimesRow : OpenClaim := { program := "ytaaeiogdhmiaaaa", sum := "fe416edfb60f880ef129939ca8094406f5dd890af826109d2e4bb936bfc970b1", func := "loop.example/foxcalculus/laws.FnBraidTimes", spec := "fnBraidTimes", unfollowed := true, recurses := true, apart := false }
def FnBraidTimesSaid : Prop := fnBraidTimesRow.holds Try.pinned (OpenSpec.ofChange fnBraidTimesSpec)

/-- ITS FALSE NEIGHBOUR: 'it returns false'. Refute it at one input. -/
def fnBraidTimesWrong : ChangeSpec := { name := "fnBraidTimes", fn := fun _ => fun
  | [d] => { results := [.lit (.bool false)], args := [d] }
  | _ => none }
def FnBraidTimesWrongFalsely : Prop := fnBraidTimesRow.holds Try.pinned (OpenSpec.ofChange fnBraidTimesWrong)

/-- 'laws.FnBraidTurned': WHATEVER THE INPUT: true; the input reads as it did. -/
def fnBraidTurnedSpec : ChangeSpec := { name := "fnBraidTurned", fn := fun _ => fun
  | [d] => { results := [.lit (.bool true)], args := [d] }
  | _ => none }
def fnBraidTurnedRow : OpenClaim := { program := "ytaaeiogdhmiaaaa", sum := "fe416edfb60f880ef129939ca8094406f5dd890af826109d2e4bb936bfc970b1", func := "loop.example/foxcalculus/laws.FnBraidTurned", spec := "fnBraidTurned", unfollowed := true, recurses := true, apart := false }
def FnBraidTurnedSaid : Prop := fnBraidTurnedRow.holds Try.pinned (OpenSpec.ofChange fnBraidTurnedSpec)

/-- ITS FALSE NEIGHBOUR: 'it returns false'. Refute it at one input. -/
def fnBraidTurnedWrong : ChangeSpec := { name := "fnBraidTurned", fn := fun _ => fun
  | [d] => { results := [.lit (.bool false)], args := [d] }
  | _ => none }
def FnBraidTurnedWrongFalsely : Prop := fnBraidTurnedRow.holds Try.pinned (OpenSpec.ofChange fnBraidTurnedWrong)

/-- 'laws.FnBraidAct': WHATEVER THE INPUT: true; the input reads as it did. -/
def fnBraidActSpec : ChangeSpec := { name := "fnBraidAct", fn := fun _ => fun
  | [d] => { results := [.lit (.bool true)], args := [d] }
  | _ => none }
def fnBraidActRow : OpenClaim := { program := "ytaaeiogdhmiaaaa", sum := "fe416edfb60f880ef129939ca8094406f5dd890af826109d2e4bb936bfc970b1", func := "loop.example/foxcalculus/laws.FnBraidAct", spec := "fnBraidAct", unfollowed := true, recurses := true, apart := false }
def FnBraidActSaid : Prop := fnBraidActRow.holds Try.pinned (OpenSpec.ofChange fnBraidActSpec)

/-- ITS FALSE NEIGHBOUR: 'it returns false'. Refute it at one input. -/
def fnBraidActWrong : ChangeSpec := { name := "fnBraidAct", fn := fun _ => fun
  | [d] => { results := [.lit (.bool false)], args := [d] }
  | _ => none }
def FnBraidActWrongFalsely : Prop := fnBraidActRow.holds Try.pinned (OpenSpec.ofChange fnBraidActWrong)

/-- 'laws.FnBraidPerm': WHATEVER THE INPUT: true; the input reads as it did. -/
def fnBraidPermSpec : ChangeSpec := { name := "fnBraidPerm", fn := fun _ => fun
  | [d] => { results := [.lit (.bool true)], args := [d] }
  | _ => none }
def fnBraidPermRow : OpenClaim := { program := "ytaaeiogdhmiaaaa", sum := "fe416edfb60f880ef129939ca8094406f5dd890af826109d2e4bb936bfc970b1", func := "loop.example/foxcalculus/laws.FnBraidPerm", spec := "fnBraidPerm", unfollowed := true, recurses := true, apart := false }
def FnBraidPermSaid : Prop := fnBraidPermRow.holds Try.pinned (OpenSpec.ofChange fnBraidPermSpec)

/-- ITS FALSE NEIGHBOUR: 'it returns false'. Refute it at one input. -/
def fnBraidPermWrong : ChangeSpec := { name := "fnBraidPerm", fn := fun _ => fun
  | [d] => { results := [.lit (.bool false)], args := [d] }
  | _ => none }
def FnBraidPermWrongFalsely : Prop := fnBraidPermRow.holds Try.pinned (OpenSpec.ofChange fnBraidPermWrong)

/-- 'laws.FnBraidSum': WHATEVER THE INPUT: true; the input reads as it did. -/
def fnBraidSumSpec : ChangeSpec := { name := "fnBraidSum", fn := fun _ => fun
  | [d] => { results := [.lit (.bool true)], args := [d] }
  | _ => none }
def fnBraidSumRow : OpenClaim := { program := "ytaaeiogdhmiaaaa", sum := "fe416edfb60f880ef129939ca8094406f5dd890af826109d2e4bb936bfc970b1", func := "loop.example/foxcalculus/laws.FnBraidSum", spec := "fnBraidSum", unfollowed := true, recurses := true, apart := false }
def FnBraidSumSaid : Prop := fnBraidSumRow.holds Try.pinned (OpenSpec.ofChange fnBraidSumSpec)

/-- ITS FALSE NEIGHBOUR: 'it returns false'. Refute it at one input. -/
def fnBraidSumWrong : ChangeSpec := { name := "fnBraidSum", fn := fun _ => fun
  | [d] => { results := [.lit (.bool false)], args := [d] }
  | _ => none }
def FnBraidSumWrongFalsely : Prop := fnBraidSumRow.holds Try.pinned (OpenSpec.ofChange fnBraidSumWrong)

/-- 'laws.FnKnot': WHATEVER THE INPUT: true; the input reads as it did. -/
def fnKnotSpec : ChangeSpec := { name := "fnKnot", fn := fun _ => fun
  | [d] => { results := [.lit (.bool true)], args := [d] }
  | _ => none }
def fnKnotRow : OpenClaim := { program := "ytaaeiogdhmiaaaa", sum := "fe416edfb60f880ef129939ca8094406f5dd890af826109d2e4bb936bfc970b1", func := "loop.example/foxcalculus/laws.FnKnot", spec := "fnKnot", unfollowed := true, recurses := true, apart := false }
def FnKnotSaid : Prop := fnKnotRow.holds Try.pinned (OpenSpec.ofChange fnKnotSpec)

/-- ITS FALSE NEIGHBOUR: 'it returns false'. Refute it at one input. -/
def fnKnotWrong : ChangeSpec := { name := "fnKnot", fn := fun _ => fun
  | [d] => { results := [.lit (.bool false)], args := [d] }
  | _ => none }
def FnKnotWrongFalsely : Prop := fnKnotRow.holds Try.pinned (OpenSpec.ofChange fnKnotWrong)

/- THE SECOND FORM. 'bulk': how many values and letters a reading holds, each counted each time it is reached (what is shared counts as often as it is met; a slice's spare places count too). A statement '..UptoSaid' is the law's where the arguments, and the package variables that the reading takes, are together of bulk at most 1048576: NARROWER than '..Said'. Prove '..Said' where nothing that the law and all that it calls make is longer than what came in: it says more and counts as full. Else prove '..UptoSaid'. A law counts once. -/
mutual
def uptoBulk {H : Type} : DataW H → Nat
  | .lit (.string bytes) => bytes.length + 1
  | .lit _ => 1
  | .nil => 1
  | .ptr d => uptoBulk d + 1
  | .slice elems spare => uptoBulkAll elems + uptoBulkAll spare + 1
  | .agg parts => uptoBulkAll parts + 1
  | .iface _ d => uptoBulk d + 1
  | .map entries => uptoBulkEntries entries + 1
  | .held _ => 1
def uptoBulkAll {H : Type} : List (DataW H) → Nat
  | [] => 0
  | d :: r => uptoBulk d + uptoBulkAll r
def uptoBulkEntries {H : Type} : List (Lit × DataW H) → Nat
  | [] => 0
  | x :: r => uptoBulkEntry x + uptoBulkEntries r
def uptoBulkEntry {H : Type} : Lit × DataW H → Nat
  | (.string bytes, d) => bytes.length + uptoBulk d + 1
  | (_, d) => uptoBulk d + 1
 end
def uptoSmall : (H : Type) → List (DataW H) → Bool := fun _ ds => decide (uptoBulkAll ds ≤ 1048576)
def OpenSpec.upto (s : _root_.Go.ChangeSpec) : _root_.Go.OpenSpec := { _root_.Go.OpenSpec.ofChange s with cond := some uptoSmall }

/-- 'laws.FnExactBraidIn', WHERE WHAT IT READS IS OF BULK AT MOST 1048576: true; the input reads as it did. -/
def fnExactBraidInUptoRow : OpenClaim := { program := "ytaaeiogdhmiaaaa", sum := "fe416edfb60f880ef129939ca8094406f5dd890af826109d2e4bb936bfc970b1", func := "loop.example/foxcalculus/laws.FnExactBraidIn", spec := "fnExactBraidIn", unfollowed := true, recurses := true, apart := false, narrowed := true }
def FnExactBraidInUptoSaid : Prop := fnExactBraidInUptoRow.holds Try.pinned (OpenSpec.upto fnExactBraidInSpec)

/-- 'laws.FnExactBraidTimes', WHERE WHAT IT READS IS OF BULK AT MOST 1048576: true; the input reads as it did. -/
def fnExactBraidTimesUptoRow : OpenClaim := { program := "ytaaeiogdhmiaaaa", sum := "fe416edfb60f880ef129939ca8094406f5dd890af826109d2e4bb936bfc970b1", func := "loop.example/foxcalculus/laws.FnExactBraidTimes", spec := "fnExactBraidTimes", unfollowed := true, recurses := true, apart := false, narrowed := true }
def FnExactBraidTimesUptoSaid : Prop := fnExactBraidTimesUptoRow.holds Try.pinned (OpenSpec.upto fnExactBraidTimesSpec)

/-- 'laws.FnExactBraidTurned', WHERE WHAT IT READS IS OF BULK AT MOST 1048576: true; the input reads as it did. -/
def fnExactBraidTurnedUptoRow : OpenClaim := { program := "ytaaeiogdhmiaaaa", sum := "fe416edfb60f880ef129939ca8094406f5dd890af826109d2e4bb936bfc970b1", func := "loop.example/foxcalculus/laws.FnExactBraidTurned", spec := "fnExactBraidTurned", unfollowed := true, recurses := true, apart := false, narrowed := true }
def FnExactBraidTurnedUptoSaid : Prop := fnExactBraidTurnedUptoRow.holds Try.pinned (OpenSpec.upto fnExactBraidTurnedSpec)

/-- 'laws.FnExactBraidAct', WHERE WHAT IT READS IS OF BULK AT MOST 1048576: true; the input reads as it did. -/
def fnExactBraidActUptoRow : OpenClaim := { program := "ytaaeiogdhmiaaaa", sum := "fe416edfb60f880ef129939ca8094406f5dd890af826109d2e4bb936bfc970b1", func := "loop.example/foxcalculus/laws.FnExactBraidAct", spec := "fnExactBraidAct", unfollowed := true, recurses := true, apart := false, narrowed := true }
def FnExactBraidActUptoSaid : Prop := fnExactBraidActUptoRow.holds Try.pinned (OpenSpec.upto fnExactBraidActSpec)

/-- 'laws.FnExactBraidPerm', WHERE WHAT IT READS IS OF BULK AT MOST 1048576: true; the input reads as it did. -/
def fnExactBraidPermUptoRow : OpenClaim := { program := "ytaaeiogdhmiaaaa", sum := "fe416edfb60f880ef129939ca8094406f5dd890af826109d2e4bb936bfc970b1", func := "loop.example/foxcalculus/laws.FnExactBraidPerm", spec := "fnExactBraidPerm", unfollowed := true, recurses := true, apart := false, narrowed := true }
def FnExactBraidPermUptoSaid : Prop := fnExactBraidPermUptoRow.holds Try.pinned (OpenSpec.upto fnExactBraidPermSpec)

/-- 'laws.FnExactBraidSum', WHERE WHAT IT READS IS OF BULK AT MOST 1048576: true; the input reads as it did. -/
def fnExactBraidSumUptoRow : OpenClaim := { program := "ytaaeiogdhmiaaaa", sum := "fe416edfb60f880ef129939ca8094406f5dd890af826109d2e4bb936bfc970b1", func := "loop.example/foxcalculus/laws.FnExactBraidSum", spec := "fnExactBraidSum", unfollowed := true, recurses := true, apart := false, narrowed := true }
def FnExactBraidSumUptoSaid : Prop := fnExactBraidSumUptoRow.holds Try.pinned (OpenSpec.upto fnExactBraidSumSpec)

/-- 'laws.FnExactBraidGrow', WHERE WHAT IT READS IS OF BULK AT MOST 1048576: true; the input reads as it did. -/
def fnExactBraidGrowUptoRow : OpenClaim := { program := "ytaaeiogdhmiaaaa", sum := "fe416edfb60f880ef129939ca8094406f5dd890af826109d2e4bb936bfc970b1", func := "loop.example/foxcalculus/laws.FnExactBraidGrow", spec := "fnExactBraidGrow", unfollowed := true, recurses := true, apart := false, narrowed := true }
def FnExactBraidGrowUptoSaid : Prop := fnExactBraidGrowUptoRow.holds Try.pinned (OpenSpec.upto fnExactBraidGrowSpec)

/-- 'laws.FnExactBraidKnot', WHERE WHAT IT READS IS OF BULK AT MOST 1048576: true; the input reads as it did. -/
def fnExactBraidKnotUptoRow : OpenClaim := { program := "ytaaeiogdhmiaaaa", sum := "fe416edfb60f880ef129939ca8094406f5dd890af826109d2e4bb936bfc970b1", func := "loop.example/foxcalculus/laws.FnExactBraidKnot", spec := "fnExactBraidKnot", unfollowed := true, recurses := true, apart := false, narrowed := true }
def FnExactBraidKnotUptoSaid : Prop := fnExactBraidKnotUptoRow.holds Try.pinned (OpenSpec.upto fnExactBraidKnotSpec)

/-- 'laws.FnExactBraidGroup', WHERE WHAT IT READS IS OF BULK AT MOST 1048576: true; the input reads as it did. -/
def fnExactBraidGroupUptoRow : OpenClaim := { program := "ytaaeiogdhmiaaaa", sum := "fe416edfb60f880ef129939ca8094406f5dd890af826109d2e4bb936bfc970b1", func := "loop.example/foxcalculus/laws.FnExactBraidGroup", spec := "fnExactBraidGroup", unfollowed := true, recurses := true, apart := false, narrowed := true }
def FnExactBraidGroupUptoSaid : Prop := fnExactBraidGroupUptoRow.holds Try.pinned (OpenSpec.upto fnExactBraidGroupSpec)

/-- 'laws.FnExactGroupSums', WHERE WHAT IT READS IS OF BULK AT MOST 1048576: true; the input reads as it did. -/
def fnExactGroupSumsUptoRow : OpenClaim := { program := "ytaaeiogdhmiaaaa", sum := "fe416edfb60f880ef129939ca8094406f5dd890af826109d2e4bb936bfc970b1", func := "loop.example/foxcalculus/laws.FnExactGroupSums", spec := "fnExactGroupSums", unfollowed := true, recurses := true, apart := false, narrowed := true }
def FnExactGroupSumsUptoSaid : Prop := fnExactGroupSumsUptoRow.holds Try.pinned (OpenSpec.upto fnExactGroupSumsSpec)

/-- 'laws.FnBraid', WHERE WHAT IT READS IS OF BULK AT MOST 1048576: true; the input reads as it did. -/
def fnBraidUptoRow : OpenClaim := { program := "ytaaeiogdhmiaaaa", sum := "fe416edfb60f880ef129939ca8094406f5dd890af826109d2e4bb936bfc970b1", func := "loop.example/foxcalculus/laws.FnBraid", spec := "fnBraid", unfollowed := true, recurses := true, apart := false, narrowed := true }
def FnBraidUptoSaid : Prop := fnBraidUptoRow.holds Try.pinned (OpenSpec.upto fnBraidSpec)

/-- 'laws.FnRelations', WHERE WHAT IT READS IS OF BULK AT MOST 1048576: true; the input reads as it did. -/
def fnRelationsUptoRow : OpenClaim := { program := "ytaaeiogdhmiaaaa", sum := "fe416edfb60f880ef129939ca8094406f5dd890af826109d2e4bb936bfc970b1", func := "loop.example/foxcalculus/laws.FnRelations", spec := "fnRelations", unfollowed := true, recurses := true, apart := false, narrowed := true }
def FnRelationsUptoSaid : Prop := fnRelationsUptoRow.holds Try.pinned (OpenSpec.upto fnRelationsSpec)

/-- 'laws.FnFar', WHERE WHAT IT READS IS OF BULK AT MOST 1048576: true; the input reads as it did. -/
def fnFarUptoRow : OpenClaim := { program := "ytaaeiogdhmiaaaa", sum := "fe416edfb60f880ef129939ca8094406f5dd890af826109d2e4bb936bfc970b1", func := "loop.example/foxcalculus/laws.FnFar", spec := "fnFar", unfollowed := true, recurses := true, apart := false, narrowed := true }
def FnFarUptoSaid : Prop := fnFarUptoRow.holds Try.pinned (OpenSpec.upto fnFarSpec)

/-- 'laws.FnBraidTimes', WHERE WHAT IT READS IS OF BULK AT MOST 1048576: true; the input reads as it did. -/
def fnBraidTimesUptoRow : OpenClaim := { program := "ytaaeiogdhmiaaaa", sum := "fe416edfb60f880ef129939ca8094406f5dd890af826109d2e4bb936bfc970b1", func := "loop.example/foxcalculus/laws.FnBraidTimes", spec := "fnBraidTimes", unfollowed := true, recurses := true, apart := false, narrowed := true }
def FnBraidTimesUptoSaid : Prop := fnBraidTimesUptoRow.holds Try.pinned (OpenSpec.upto fnBraidTimesSpec)

/-- 'laws.FnBraidTurned', WHERE WHAT IT READS IS OF BULK AT MOST 1048576: true; the input reads as it did. -/
def fnBraidTurnedUptoRow : OpenClaim := { program := "ytaaeiogdhmiaaaa", sum := "fe416edfb60f880ef129939ca8094406f5dd890af826109d2e4bb936bfc970b1", func := "loop.example/foxcalculus/laws.FnBraidTurned", spec := "fnBraidTurned", unfollowed := true, recurses := true, apart := false, narrowed := true }
def FnBraidTurnedUptoSaid : Prop := fnBraidTurnedUptoRow.holds Try.pinned (OpenSpec.upto fnBraidTurnedSpec)

/-- 'laws.FnBraidAct', WHERE WHAT IT READS IS OF BULK AT MOST 1048576: true; the input reads as it did. -/
def fnBraidActUptoRow : OpenClaim := { program := "ytaaeiogdhmiaaaa", sum := "fe416edfb60f880ef129939ca8094406f5dd890af826109d2e4bb936bfc970b1", func := "loop.example/foxcalculus/laws.FnBraidAct", spec := "fnBraidAct", unfollowed := true, recurses := true, apart := false, narrowed := true }
def FnBraidActUptoSaid : Prop := fnBraidActUptoRow.holds Try.pinned (OpenSpec.upto fnBraidActSpec)

/-- 'laws.FnBraidPerm', WHERE WHAT IT READS IS OF BULK AT MOST 1048576: true; the input reads as it did. -/
def fnBraidPermUptoRow : OpenClaim := { program := "ytaaeiogdhmiaaaa", sum := "fe416edfb60f880ef129939ca8094406f5dd890af826109d2e4bb936bfc970b1", func := "loop.example/foxcalculus/laws.FnBraidPerm", spec := "fnBraidPerm", unfollowed := true, recurses := true, apart := false, narrowed := true }
def FnBraidPermUptoSaid : Prop := fnBraidPermUptoRow.holds Try.pinned (OpenSpec.upto fnBraidPermSpec)

/-- 'laws.FnBraidSum', WHERE WHAT IT READS IS OF BULK AT MOST 1048576: true; the input reads as it did. -/
def fnBraidSumUptoRow : OpenClaim := { program := "ytaaeiogdhmiaaaa", sum := "fe416edfb60f880ef129939ca8094406f5dd890af826109d2e4bb936bfc970b1", func := "loop.example/foxcalculus/laws.FnBraidSum", spec := "fnBraidSum", unfollowed := true, recurses := true, apart := false, narrowed := true }
def FnBraidSumUptoSaid : Prop := fnBraidSumUptoRow.holds Try.pinned (OpenSpec.upto fnBraidSumSpec)

/-- 'laws.FnKnot', WHERE WHAT IT READS IS OF BULK AT MOST 1048576: true; the input reads as it did. -/
def fnKnotUptoRow : OpenClaim := { program := "ytaaeiogdhmiaaaa", sum := "fe416edfb60f880ef129939ca8094406f5dd890af826109d2e4bb936bfc970b1", func := "loop.example/foxcalculus/laws.FnKnot", spec := "fnKnot", unfollowed := true, recurses := true, apart := false, narrowed := true }
def FnKnotUptoSaid : Prop := fnKnotUptoRow.holds Try.pinned (OpenSpec.upto fnKnotSpec)

end Rows
end Go.Proofs.Ytaaeiogdhmiaaaa

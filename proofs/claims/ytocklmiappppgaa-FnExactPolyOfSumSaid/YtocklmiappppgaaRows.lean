/-
  No cell of these rows narrows 'for every input' (looked for: loops, veiled, ifaces, maps, wideKeys, modest, calm, conditions, laid).
  DERIVED. THE GIVEN ROWS OF THIS SEAT. 20 by the template 'for every input the law returns true; each argument reads behind the call as it read before'; 0 by the template 'total and deterministic' (their statements: YtocklmiappppgaaTotals.lean).
  GIVEN WITH THE SEED: the statements are not yours to turn. If you find one false, say at which input.
  Laid BY PROGRAM, IN A SANDBOX (cutbox-rows.mjs): the forced cells as the released guide's own fill.sh prints them over the translation 19adc0433766dd23… (all of the seat's roots in one cut). By AI agents, Wed Nov 11 2026. No macro, syntax, notation, axiom, sorry.
-/
import Derived.Test.YtocklmiappppgaaChecked
import GoSem.Claim
import GoSem.ClaimJoined
import GoSem.ClaimMapViews
import Derived.JoinedTies
import Derived.KernelRfl
namespace Go.Proofs.Ytocklmiappppgaa
/- THE CELL 'sum', in the pinned program and in every row, IS THE sha256 OF THE DUMP (.gsa) THAT YtocklmiappppgaaProg.lean LOADS. Nothing in Lean hashes anything: it is a label: what it is worth is what the hold of that sum in a sandbox is worth. -/
noncomputable def Try.pinned : Pinned := { name := "ytocklmiappppgaa", sum := "19adc0433766dd23504c38e847d6c36b0c33889e34f6698b072f8effb252de84", checked := Try.checked }
namespace Rows
def none {H : Type} : Left H := { results := [], args := [] }

/-- 'laws.FnPoly': WHATEVER THE INPUT: true; the input reads as it did. -/
def fnPolySpec : ChangeSpec := { name := "fnPoly", fn := fun _ => fun
  | [d] => { results := [.lit (.bool true)], args := [d] }
  | _ => none }
def fnPolyRow : OpenClaim := { program := "ytocklmiappppgaa", sum := "19adc0433766dd23504c38e847d6c36b0c33889e34f6698b072f8effb252de84", func := "loop.example/foxcalculus/laws.FnPoly", spec := "fnPoly", unfollowed := true, recurses := true, apart := false }
def FnPolySaid : Prop := fnPolyRow.holds Try.pinned (OpenSpec.ofChange fnPolySpec)

/-- ITS FALSE NEIGHBOUR: 'it returns false'. Refute it at one input. -/
def fnPolyWrong : ChangeSpec := { name := "fnPoly", fn := fun _ => fun
  | [d] => { results := [.lit (.bool false)], args := [d] }
  | _ => none }
def FnPolyWrongFalsely : Prop := fnPolyRow.holds Try.pinned (OpenSpec.ofChange fnPolyWrong)

/-- 'laws.FnPolyOf': WHATEVER THE INPUT: true; the input reads as it did. -/
def fnPolyOfSpec : ChangeSpec := { name := "fnPolyOf", fn := fun _ => fun
  | [d] => { results := [.lit (.bool true)], args := [d] }
  | _ => none }
def fnPolyOfRow : OpenClaim := { program := "ytocklmiappppgaa", sum := "19adc0433766dd23504c38e847d6c36b0c33889e34f6698b072f8effb252de84", func := "loop.example/foxcalculus/laws.FnPolyOf", spec := "fnPolyOf", unfollowed := true, recurses := true, apart := false }
def FnPolyOfSaid : Prop := fnPolyOfRow.holds Try.pinned (OpenSpec.ofChange fnPolyOfSpec)

/-- ITS FALSE NEIGHBOUR: 'it returns false'. Refute it at one input. -/
def fnPolyOfWrong : ChangeSpec := { name := "fnPolyOf", fn := fun _ => fun
  | [d] => { results := [.lit (.bool false)], args := [d] }
  | _ => none }
def FnPolyOfWrongFalsely : Prop := fnPolyOfRow.holds Try.pinned (OpenSpec.ofChange fnPolyOfWrong)

/-- 'laws.FnPolyAdd': WHATEVER THE INPUT: true; the input reads as it did. -/
def fnPolyAddSpec : ChangeSpec := { name := "fnPolyAdd", fn := fun _ => fun
  | [d] => { results := [.lit (.bool true)], args := [d] }
  | _ => none }
def fnPolyAddRow : OpenClaim := { program := "ytocklmiappppgaa", sum := "19adc0433766dd23504c38e847d6c36b0c33889e34f6698b072f8effb252de84", func := "loop.example/foxcalculus/laws.FnPolyAdd", spec := "fnPolyAdd", unfollowed := true, recurses := true, apart := false }
def FnPolyAddSaid : Prop := fnPolyAddRow.holds Try.pinned (OpenSpec.ofChange fnPolyAddSpec)

/-- ITS FALSE NEIGHBOUR: 'it returns false'. Refute it at one input. -/
def fnPolyAddWrong : ChangeSpec := { name := "fnPolyAdd", fn := fun _ => fun
  | [d] => { results := [.lit (.bool false)], args := [d] }
  | _ => none }
def FnPolyAddWrongFalsely : Prop := fnPolyAddRow.holds Try.pinned (OpenSpec.ofChange fnPolyAddWrong)

/-- 'laws.FnPolyTimes': WHATEVER THE INPUT: true; the input reads as it did. -/
def fnPolyTimesSpec : ChangeSpec := { name := "fnPolyTimes", fn := fun _ => fun
  | [d] => { results := [.lit (.bool true)], args := [d] }
  | _ => none }
def fnPolyTimesRow : OpenClaim := { program := "ytocklmiappppgaa", sum := "19adc0433766dd23504c38e847d6c36b0c33889e34f6698b072f8effb252de84", func := "loop.example/foxcalculus/laws.FnPolyTimes", spec := "fnPolyTimes", unfollowed := true, recurses := true, apart := false }
def FnPolyTimesSaid : Prop := fnPolyTimesRow.holds Try.pinned (OpenSpec.ofChange fnPolyTimesSpec)

/-- ITS FALSE NEIGHBOUR: 'it returns false'. Refute it at one input. -/
def fnPolyTimesWrong : ChangeSpec := { name := "fnPolyTimes", fn := fun _ => fun
  | [d] => { results := [.lit (.bool false)], args := [d] }
  | _ => none }
def FnPolyTimesWrongFalsely : Prop := fnPolyTimesRow.holds Try.pinned (OpenSpec.ofChange fnPolyTimesWrong)

/-- 'laws.FnPolyShares': WHATEVER THE INPUT: true; the input reads as it did. -/
def fnPolySharesSpec : ChangeSpec := { name := "fnPolyShares", fn := fun _ => fun
  | [d] => { results := [.lit (.bool true)], args := [d] }
  | _ => none }
def fnPolySharesRow : OpenClaim := { program := "ytocklmiappppgaa", sum := "19adc0433766dd23504c38e847d6c36b0c33889e34f6698b072f8effb252de84", func := "loop.example/foxcalculus/laws.FnPolyShares", spec := "fnPolyShares", unfollowed := true, recurses := true, apart := false }
def FnPolySharesSaid : Prop := fnPolySharesRow.holds Try.pinned (OpenSpec.ofChange fnPolySharesSpec)

/-- ITS FALSE NEIGHBOUR: 'it returns false'. Refute it at one input. -/
def fnPolySharesWrong : ChangeSpec := { name := "fnPolyShares", fn := fun _ => fun
  | [d] => { results := [.lit (.bool false)], args := [d] }
  | _ => none }
def FnPolySharesWrongFalsely : Prop := fnPolySharesRow.holds Try.pinned (OpenSpec.ofChange fnPolySharesWrong)

/-- 'laws.FnPolyTurned': WHATEVER THE INPUT: true; the input reads as it did. -/
def fnPolyTurnedSpec : ChangeSpec := { name := "fnPolyTurned", fn := fun _ => fun
  | [d] => { results := [.lit (.bool true)], args := [d] }
  | _ => none }
def fnPolyTurnedRow : OpenClaim := { program := "ytocklmiappppgaa", sum := "19adc0433766dd23504c38e847d6c36b0c33889e34f6698b072f8effb252de84", func := "loop.example/foxcalculus/laws.FnPolyTurned", spec := "fnPolyTurned", unfollowed := true, recurses := true, apart := false }
def FnPolyTurnedSaid : Prop := fnPolyTurnedRow.holds Try.pinned (OpenSpec.ofChange fnPolyTurnedSpec)

/-- ITS FALSE NEIGHBOUR: 'it returns false'. Refute it at one input. -/
def fnPolyTurnedWrong : ChangeSpec := { name := "fnPolyTurned", fn := fun _ => fun
  | [d] => { results := [.lit (.bool false)], args := [d] }
  | _ => none }
def FnPolyTurnedWrongFalsely : Prop := fnPolyTurnedRow.holds Try.pinned (OpenSpec.ofChange fnPolyTurnedWrong)

/-- 'laws.FnPolyPlain': WHATEVER THE INPUT: true; the input reads as it did. -/
def fnPolyPlainSpec : ChangeSpec := { name := "fnPolyPlain", fn := fun _ => fun
  | [d] => { results := [.lit (.bool true)], args := [d] }
  | _ => none }
def fnPolyPlainRow : OpenClaim := { program := "ytocklmiappppgaa", sum := "19adc0433766dd23504c38e847d6c36b0c33889e34f6698b072f8effb252de84", func := "loop.example/foxcalculus/laws.FnPolyPlain", spec := "fnPolyPlain", unfollowed := true, recurses := true, apart := false }
def FnPolyPlainSaid : Prop := fnPolyPlainRow.holds Try.pinned (OpenSpec.ofChange fnPolyPlainSpec)

/-- ITS FALSE NEIGHBOUR: 'it returns false'. Refute it at one input. -/
def fnPolyPlainWrong : ChangeSpec := { name := "fnPolyPlain", fn := fun _ => fun
  | [d] => { results := [.lit (.bool false)], args := [d] }
  | _ => none }
def FnPolyPlainWrongFalsely : Prop := fnPolyPlainRow.holds Try.pinned (OpenSpec.ofChange fnPolyPlainWrong)

/-- 'laws.FnPolyOne': WHATEVER THE INPUT: true; the input reads as it did. -/
def fnPolyOneSpec : ChangeSpec := { name := "fnPolyOne", fn := fun _ => fun
  | [d] => { results := [.lit (.bool true)], args := [d] }
  | _ => none }
def fnPolyOneRow : OpenClaim := { program := "ytocklmiappppgaa", sum := "19adc0433766dd23504c38e847d6c36b0c33889e34f6698b072f8effb252de84", func := "loop.example/foxcalculus/laws.FnPolyOne", spec := "fnPolyOne", unfollowed := true, recurses := true, apart := false }
def FnPolyOneSaid : Prop := fnPolyOneRow.holds Try.pinned (OpenSpec.ofChange fnPolyOneSpec)

/-- ITS FALSE NEIGHBOUR: 'it returns false'. Refute it at one input. -/
def fnPolyOneWrong : ChangeSpec := { name := "fnPolyOne", fn := fun _ => fun
  | [d] => { results := [.lit (.bool false)], args := [d] }
  | _ => none }
def FnPolyOneWrongFalsely : Prop := fnPolyOneRow.holds Try.pinned (OpenSpec.ofChange fnPolyOneWrong)

/-- 'laws.FnPolyOver': WHATEVER THE INPUT: true; the input reads as it did. -/
def fnPolyOverSpec : ChangeSpec := { name := "fnPolyOver", fn := fun _ => fun
  | [d] => { results := [.lit (.bool true)], args := [d] }
  | _ => none }
def fnPolyOverRow : OpenClaim := { program := "ytocklmiappppgaa", sum := "19adc0433766dd23504c38e847d6c36b0c33889e34f6698b072f8effb252de84", func := "loop.example/foxcalculus/laws.FnPolyOver", spec := "fnPolyOver", unfollowed := true, recurses := true, apart := false }
def FnPolyOverSaid : Prop := fnPolyOverRow.holds Try.pinned (OpenSpec.ofChange fnPolyOverSpec)

/-- ITS FALSE NEIGHBOUR: 'it returns false'. Refute it at one input. -/
def fnPolyOverWrong : ChangeSpec := { name := "fnPolyOver", fn := fun _ => fun
  | [d] => { results := [.lit (.bool false)], args := [d] }
  | _ => none }
def FnPolyOverWrongFalsely : Prop := fnPolyOverRow.holds Try.pinned (OpenSpec.ofChange fnPolyOverWrong)

/-- 'laws.FnPolyAlike': WHATEVER THE INPUT: true; the input reads as it did. -/
def fnPolyAlikeSpec : ChangeSpec := { name := "fnPolyAlike", fn := fun _ => fun
  | [d] => { results := [.lit (.bool true)], args := [d] }
  | _ => none }
def fnPolyAlikeRow : OpenClaim := { program := "ytocklmiappppgaa", sum := "19adc0433766dd23504c38e847d6c36b0c33889e34f6698b072f8effb252de84", func := "loop.example/foxcalculus/laws.FnPolyAlike", spec := "fnPolyAlike", unfollowed := true, recurses := true, apart := false }
def FnPolyAlikeSaid : Prop := fnPolyAlikeRow.holds Try.pinned (OpenSpec.ofChange fnPolyAlikeSpec)

/-- ITS FALSE NEIGHBOUR: 'it returns false'. Refute it at one input. -/
def fnPolyAlikeWrong : ChangeSpec := { name := "fnPolyAlike", fn := fun _ => fun
  | [d] => { results := [.lit (.bool false)], args := [d] }
  | _ => none }
def FnPolyAlikeWrongFalsely : Prop := fnPolyAlikeRow.holds Try.pinned (OpenSpec.ofChange fnPolyAlikeWrong)

/-- 'laws.FnExactPolyIn': WHATEVER THE INPUT: true; the input reads as it did. -/
def fnExactPolyInSpec : ChangeSpec := { name := "fnExactPolyIn", fn := fun _ => fun
  | [d] => { results := [.lit (.bool true)], args := [d] }
  | _ => none }
def fnExactPolyInRow : OpenClaim := { program := "ytocklmiappppgaa", sum := "19adc0433766dd23504c38e847d6c36b0c33889e34f6698b072f8effb252de84", func := "loop.example/foxcalculus/laws.FnExactPolyIn", spec := "fnExactPolyIn", unfollowed := true, recurses := true, apart := false }
def FnExactPolyInSaid : Prop := fnExactPolyInRow.holds Try.pinned (OpenSpec.ofChange fnExactPolyInSpec)

/-- ITS FALSE NEIGHBOUR: 'it returns false'. Refute it at one input. -/
def fnExactPolyInWrong : ChangeSpec := { name := "fnExactPolyIn", fn := fun _ => fun
  | [d] => { results := [.lit (.bool false)], args := [d] }
  | _ => none }
def FnExactPolyInWrongFalsely : Prop := fnExactPolyInRow.holds Try.pinned (OpenSpec.ofChange fnExactPolyInWrong)

/-- 'laws.FnExactPolyOf': WHATEVER THE INPUT: true; the input reads as it did. -/
def fnExactPolyOfSpec : ChangeSpec := { name := "fnExactPolyOf", fn := fun _ => fun
  | [d1, d2] => { results := [.lit (.bool true)], args := [d1, d2] }
  | _ => none }
def fnExactPolyOfRow : OpenClaim := { program := "ytocklmiappppgaa", sum := "19adc0433766dd23504c38e847d6c36b0c33889e34f6698b072f8effb252de84", func := "loop.example/foxcalculus/laws.FnExactPolyOf", spec := "fnExactPolyOf", unfollowed := true, recurses := true, apart := false }
def FnExactPolyOfSaid : Prop := fnExactPolyOfRow.holds Try.pinned (OpenSpec.ofChange fnExactPolyOfSpec)

/-- ITS FALSE NEIGHBOUR: 'it returns false'. Refute it at one input. -/
def fnExactPolyOfWrong : ChangeSpec := { name := "fnExactPolyOf", fn := fun _ => fun
  | [d1, d2] => { results := [.lit (.bool false)], args := [d1, d2] }
  | _ => none }
def FnExactPolyOfWrongFalsely : Prop := fnExactPolyOfRow.holds Try.pinned (OpenSpec.ofChange fnExactPolyOfWrong)

/-- 'laws.FnExactPolyAdd': WHATEVER THE INPUT: true; the input reads as it did. -/
def fnExactPolyAddSpec : ChangeSpec := { name := "fnExactPolyAdd", fn := fun _ => fun
  | [d1, d2] => { results := [.lit (.bool true)], args := [d1, d2] }
  | _ => none }
def fnExactPolyAddRow : OpenClaim := { program := "ytocklmiappppgaa", sum := "19adc0433766dd23504c38e847d6c36b0c33889e34f6698b072f8effb252de84", func := "loop.example/foxcalculus/laws.FnExactPolyAdd", spec := "fnExactPolyAdd", unfollowed := true, recurses := true, apart := false }
def FnExactPolyAddSaid : Prop := fnExactPolyAddRow.holds Try.pinned (OpenSpec.ofChange fnExactPolyAddSpec)

/-- ITS FALSE NEIGHBOUR: 'it returns false'. Refute it at one input. -/
def fnExactPolyAddWrong : ChangeSpec := { name := "fnExactPolyAdd", fn := fun _ => fun
  | [d1, d2] => { results := [.lit (.bool false)], args := [d1, d2] }
  | _ => none }
def FnExactPolyAddWrongFalsely : Prop := fnExactPolyAddRow.holds Try.pinned (OpenSpec.ofChange fnExactPolyAddWrong)

/-- 'laws.FnExactPolyTimes': WHATEVER THE INPUT: true; the input reads as it did. -/
def fnExactPolyTimesSpec : ChangeSpec := { name := "fnExactPolyTimes", fn := fun _ => fun
  | [d1, d2] => { results := [.lit (.bool true)], args := [d1, d2] }
  | _ => none }
def fnExactPolyTimesRow : OpenClaim := { program := "ytocklmiappppgaa", sum := "19adc0433766dd23504c38e847d6c36b0c33889e34f6698b072f8effb252de84", func := "loop.example/foxcalculus/laws.FnExactPolyTimes", spec := "fnExactPolyTimes", unfollowed := true, recurses := true, apart := false }
def FnExactPolyTimesSaid : Prop := fnExactPolyTimesRow.holds Try.pinned (OpenSpec.ofChange fnExactPolyTimesSpec)

/-- ITS FALSE NEIGHBOUR: 'it returns false'. Refute it at one input. -/
def fnExactPolyTimesWrong : ChangeSpec := { name := "fnExactPolyTimes", fn := fun _ => fun
  | [d1, d2] => { results := [.lit (.bool false)], args := [d1, d2] }
  | _ => none }
def FnExactPolyTimesWrongFalsely : Prop := fnExactPolyTimesRow.holds Try.pinned (OpenSpec.ofChange fnExactPolyTimesWrong)

/-- 'laws.FnExactPolyTurned': WHATEVER THE INPUT: true; the input reads as it did. -/
def fnExactPolyTurnedSpec : ChangeSpec := { name := "fnExactPolyTurned", fn := fun _ => fun
  | [d] => { results := [.lit (.bool true)], args := [d] }
  | _ => none }
def fnExactPolyTurnedRow : OpenClaim := { program := "ytocklmiappppgaa", sum := "19adc0433766dd23504c38e847d6c36b0c33889e34f6698b072f8effb252de84", func := "loop.example/foxcalculus/laws.FnExactPolyTurned", spec := "fnExactPolyTurned", unfollowed := true, recurses := true, apart := false }
def FnExactPolyTurnedSaid : Prop := fnExactPolyTurnedRow.holds Try.pinned (OpenSpec.ofChange fnExactPolyTurnedSpec)

/-- ITS FALSE NEIGHBOUR: 'it returns false'. Refute it at one input. -/
def fnExactPolyTurnedWrong : ChangeSpec := { name := "fnExactPolyTurned", fn := fun _ => fun
  | [d] => { results := [.lit (.bool false)], args := [d] }
  | _ => none }
def FnExactPolyTurnedWrongFalsely : Prop := fnExactPolyTurnedRow.holds Try.pinned (OpenSpec.ofChange fnExactPolyTurnedWrong)

/-- 'laws.FnExactPolyPlain': WHATEVER THE INPUT: true; the input reads as it did. -/
def fnExactPolyPlainSpec : ChangeSpec := { name := "fnExactPolyPlain", fn := fun _ => fun
  | [d] => { results := [.lit (.bool true)], args := [d] }
  | _ => none }
def fnExactPolyPlainRow : OpenClaim := { program := "ytocklmiappppgaa", sum := "19adc0433766dd23504c38e847d6c36b0c33889e34f6698b072f8effb252de84", func := "loop.example/foxcalculus/laws.FnExactPolyPlain", spec := "fnExactPolyPlain", unfollowed := true, recurses := true, apart := false }
def FnExactPolyPlainSaid : Prop := fnExactPolyPlainRow.holds Try.pinned (OpenSpec.ofChange fnExactPolyPlainSpec)

/-- ITS FALSE NEIGHBOUR: 'it returns false'. Refute it at one input. -/
def fnExactPolyPlainWrong : ChangeSpec := { name := "fnExactPolyPlain", fn := fun _ => fun
  | [d] => { results := [.lit (.bool false)], args := [d] }
  | _ => none }
def FnExactPolyPlainWrongFalsely : Prop := fnExactPolyPlainRow.holds Try.pinned (OpenSpec.ofChange fnExactPolyPlainWrong)

/-- 'laws.FnExactPolyOne': WHATEVER THE INPUT: true; the input reads as it did. -/
def fnExactPolyOneSpec : ChangeSpec := { name := "fnExactPolyOne", fn := fun _ => fun
  | [d] => { results := [.lit (.bool true)], args := [d] }
  | _ => none }
def fnExactPolyOneRow : OpenClaim := { program := "ytocklmiappppgaa", sum := "19adc0433766dd23504c38e847d6c36b0c33889e34f6698b072f8effb252de84", func := "loop.example/foxcalculus/laws.FnExactPolyOne", spec := "fnExactPolyOne", unfollowed := true, recurses := true, apart := false }
def FnExactPolyOneSaid : Prop := fnExactPolyOneRow.holds Try.pinned (OpenSpec.ofChange fnExactPolyOneSpec)

/-- ITS FALSE NEIGHBOUR: 'it returns false'. Refute it at one input. -/
def fnExactPolyOneWrong : ChangeSpec := { name := "fnExactPolyOne", fn := fun _ => fun
  | [d] => { results := [.lit (.bool false)], args := [d] }
  | _ => none }
def FnExactPolyOneWrongFalsely : Prop := fnExactPolyOneRow.holds Try.pinned (OpenSpec.ofChange fnExactPolyOneWrong)

/-- 'laws.FnExactPolyOver': WHATEVER THE INPUT: true; the input reads as it did. -/
def fnExactPolyOverSpec : ChangeSpec := { name := "fnExactPolyOver", fn := fun _ => fun
  | [d1, d2] => { results := [.lit (.bool true)], args := [d1, d2] }
  | _ => none }
def fnExactPolyOverRow : OpenClaim := { program := "ytocklmiappppgaa", sum := "19adc0433766dd23504c38e847d6c36b0c33889e34f6698b072f8effb252de84", func := "loop.example/foxcalculus/laws.FnExactPolyOver", spec := "fnExactPolyOver", unfollowed := true, recurses := true, apart := false }
def FnExactPolyOverSaid : Prop := fnExactPolyOverRow.holds Try.pinned (OpenSpec.ofChange fnExactPolyOverSpec)

/-- ITS FALSE NEIGHBOUR: 'it returns false'. Refute it at one input. -/
def fnExactPolyOverWrong : ChangeSpec := { name := "fnExactPolyOver", fn := fun _ => fun
  | [d1, d2] => { results := [.lit (.bool false)], args := [d1, d2] }
  | _ => none }
def FnExactPolyOverWrongFalsely : Prop := fnExactPolyOverRow.holds Try.pinned (OpenSpec.ofChange fnExactPolyOverWrong)

/-- 'laws.FnExactPolyAlike': WHATEVER THE INPUT: true; the input reads as it did. -/
def fnExactPolyAlikeSpec : ChangeSpec := { name := "fnExactPolyAlike", fn := fun _ => fun
  | [d1, d2] => { results := [.lit (.bool true)], args := [d1, d2] }
  | _ => none }
def fnExactPolyAlikeRow : OpenClaim := { program := "ytocklmiappppgaa", sum := "19adc0433766dd23504c38e847d6c36b0c33889e34f6698b072f8effb252de84", func := "loop.example/foxcalculus/laws.FnExactPolyAlike", spec := "fnExactPolyAlike", unfollowed := true, recurses := true, apart := false }
def FnExactPolyAlikeSaid : Prop := fnExactPolyAlikeRow.holds Try.pinned (OpenSpec.ofChange fnExactPolyAlikeSpec)

/-- ITS FALSE NEIGHBOUR: 'it returns false'. Refute it at one input. -/
def fnExactPolyAlikeWrong : ChangeSpec := { name := "fnExactPolyAlike", fn := fun _ => fun
  | [d1, d2] => { results := [.lit (.bool false)], args := [d1, d2] }
  | _ => none }
def FnExactPolyAlikeWrongFalsely : Prop := fnExactPolyAlikeRow.holds Try.pinned (OpenSpec.ofChange fnExactPolyAlikeWrong)

/-- 'laws.FnExactPolyOfSum': WHATEVER THE INPUT: true; the input reads as it did. -/
def fnExactPolyOfSumSpec : ChangeSpec := { name := "fnExactPolyOfSum", fn := fun _ => fun
  | [d] => { results := [.lit (.bool true)], args := [d] }
  | _ => none }
def fnExactPolyOfSumRow : OpenClaim := { program := "ytocklmiappppgaa", sum := "19adc0433766dd23504c38e847d6c36b0c33889e34f6698b072f8effb252de84", func := "loop.example/foxcalculus/laws.FnExactPolyOfSum", spec := "fnExactPolyOfSum", inPlace := ["internal/bytealg.abigen_runtime_cmpstring"], unfollowed := true, recurses := true, apart := false }
def FnExactPolyOfSumSaid : Prop := fnExactPolyOfSumRow.holds Try.pinned (OpenSpec.ofChange fnExactPolyOfSumSpec)

/-- ITS FALSE NEIGHBOUR: 'it returns false'. Refute it at one input. -/
def fnExactPolyOfSumWrong : ChangeSpec := { name := "fnExactPolyOfSum", fn := fun _ => fun
  | [d] => { results := [.lit (.bool false)], args := [d] }
  | _ => none }
def FnExactPolyOfSumWrongFalsely : Prop := fnExactPolyOfSumRow.holds Try.pinned (OpenSpec.ofChange fnExactPolyOfSumWrong)

/- THE SECOND FORM. 'bulk': how many values and letters a reading holds, each counted each time it is reached (what is shared counts as often as it is met; a slice's spare places count too). A statement '..UptoSaid' is the law's where the arguments, and the package variables that the reading takes, are together of bulk at most 1048576: NARROWER than '..Said'. Prove '..Said' where nothing that the law and all that it calls make is longer than what came in: it says more and counts as full. Else prove '..UptoSaid'. A law counts once. -/
mutual
def uptoBulk {H : Type} : DataW H → Nat
  | .lit (.string bytes) => bytes.length + 1
  | .lit _ => 1
  | .nil => 1
  | .ptr d => uptoBulk d + 1
  | .slice elems spare => uptoBulkAll elems + uptoBulkAll spare + 1
  | .agg parts => uptoBulkAll parts + 1
  | .iface _ d => uptoBulk d + 1
  | .map entries => uptoBulkEntries entries + 1
  | .held _ => 1
def uptoBulkAll {H : Type} : List (DataW H) → Nat
  | [] => 0
  | d :: r => uptoBulk d + uptoBulkAll r
def uptoBulkEntries {H : Type} : List (Lit × DataW H) → Nat
  | [] => 0
  | x :: r => uptoBulkEntry x + uptoBulkEntries r
def uptoBulkEntry {H : Type} : Lit × DataW H → Nat
  | (.string bytes, d) => bytes.length + uptoBulk d + 1
  | (_, d) => uptoBulk d + 1
 end
def uptoSmall : (H : Type) → List (DataW H) → Bool := fun _ ds => decide (uptoBulkAll ds ≤ 1048576)
def OpenSpec.upto (s : _root_.Go.ChangeSpec) : _root_.Go.OpenSpec := { _root_.Go.OpenSpec.ofChange s with cond := some uptoSmall }

/-- 'laws.FnPoly', WHERE WHAT IT READS IS OF BULK AT MOST 1048576: true; the input reads as it did. -/
def fnPolyUptoRow : OpenClaim := { program := "ytocklmiappppgaa", sum := "19adc0433766dd23504c38e847d6c36b0c33889e34f6698b072f8effb252de84", func := "loop.example/foxcalculus/laws.FnPoly", spec := "fnPoly", unfollowed := true, recurses := true, apart := false, narrowed := true }
def FnPolyUptoSaid : Prop := fnPolyUptoRow.holds Try.pinned (OpenSpec.upto fnPolySpec)

/-- 'laws.FnPolyOf', WHERE WHAT IT READS IS OF BULK AT MOST 1048576: true; the input reads as it did. -/
def fnPolyOfUptoRow : OpenClaim := { program := "ytocklmiappppgaa", sum := "19adc0433766dd23504c38e847d6c36b0c33889e34f6698b072f8effb252de84", func := "loop.example/foxcalculus/laws.FnPolyOf", spec := "fnPolyOf", unfollowed := true, recurses := true, apart := false, narrowed := true }
def FnPolyOfUptoSaid : Prop := fnPolyOfUptoRow.holds Try.pinned (OpenSpec.upto fnPolyOfSpec)

/-- 'laws.FnPolyAdd', WHERE WHAT IT READS IS OF BULK AT MOST 1048576: true; the input reads as it did. -/
def fnPolyAddUptoRow : OpenClaim := { program := "ytocklmiappppgaa", sum := "19adc0433766dd23504c38e847d6c36b0c33889e34f6698b072f8effb252de84", func := "loop.example/foxcalculus/laws.FnPolyAdd", spec := "fnPolyAdd", unfollowed := true, recurses := true, apart := false, narrowed := true }
def FnPolyAddUptoSaid : Prop := fnPolyAddUptoRow.holds Try.pinned (OpenSpec.upto fnPolyAddSpec)

/-- 'laws.FnPolyTimes', WHERE WHAT IT READS IS OF BULK AT MOST 1048576: true; the input reads as it did. -/
def fnPolyTimesUptoRow : OpenClaim := { program := "ytocklmiappppgaa", sum := "19adc0433766dd23504c38e847d6c36b0c33889e34f6698b072f8effb252de84", func := "loop.example/foxcalculus/laws.FnPolyTimes", spec := "fnPolyTimes", unfollowed := true, recurses := true, apart := false, narrowed := true }
def FnPolyTimesUptoSaid : Prop := fnPolyTimesUptoRow.holds Try.pinned (OpenSpec.upto fnPolyTimesSpec)

/-- 'laws.FnPolyShares', WHERE WHAT IT READS IS OF BULK AT MOST 1048576: true; the input reads as it did. -/
def fnPolySharesUptoRow : OpenClaim := { program := "ytocklmiappppgaa", sum := "19adc0433766dd23504c38e847d6c36b0c33889e34f6698b072f8effb252de84", func := "loop.example/foxcalculus/laws.FnPolyShares", spec := "fnPolyShares", unfollowed := true, recurses := true, apart := false, narrowed := true }
def FnPolySharesUptoSaid : Prop := fnPolySharesUptoRow.holds Try.pinned (OpenSpec.upto fnPolySharesSpec)

/-- 'laws.FnPolyTurned', WHERE WHAT IT READS IS OF BULK AT MOST 1048576: true; the input reads as it did. -/
def fnPolyTurnedUptoRow : OpenClaim := { program := "ytocklmiappppgaa", sum := "19adc0433766dd23504c38e847d6c36b0c33889e34f6698b072f8effb252de84", func := "loop.example/foxcalculus/laws.FnPolyTurned", spec := "fnPolyTurned", unfollowed := true, recurses := true, apart := false, narrowed := true }
def FnPolyTurnedUptoSaid : Prop := fnPolyTurnedUptoRow.holds Try.pinned (OpenSpec.upto fnPolyTurnedSpec)

/-- 'laws.FnPolyPlain', WHERE WHAT IT READS IS OF BULK AT MOST 1048576: true; the input reads as it did. -/
def fnPolyPlainUptoRow : OpenClaim := { program := "ytocklmiappppgaa", sum := "19adc0433766dd23504c38e847d6c36b0c33889e34f6698b072f8effb252de84", func := "loop.example/foxcalculus/laws.FnPolyPlain", spec := "fnPolyPlain", unfollowed := true, recurses := true, apart := false, narrowed := true }
def FnPolyPlainUptoSaid : Prop := fnPolyPlainUptoRow.holds Try.pinned (OpenSpec.upto fnPolyPlainSpec)

/-- 'laws.FnPolyOne', WHERE WHAT IT READS IS OF BULK AT MOST 1048576: true; the input reads as it did. -/
def fnPolyOneUptoRow : OpenClaim := { program := "ytocklmiappppgaa", sum := "19adc0433766dd23504c38e847d6c36b0c33889e34f6698b072f8effb252de84", func := "loop.example/foxcalculus/laws.FnPolyOne", spec := "fnPolyOne", unfollowed := true, recurses := true, apart := false, narrowed := true }
def FnPolyOneUptoSaid : Prop := fnPolyOneUptoRow.holds Try.pinned (OpenSpec.upto fnPolyOneSpec)

/-- 'laws.FnPolyOver', WHERE WHAT IT READS IS OF BULK AT MOST 1048576: true; the input reads as it did. -/
def fnPolyOverUptoRow : OpenClaim := { program := "ytocklmiappppgaa", sum := "19adc0433766dd23504c38e847d6c36b0c33889e34f6698b072f8effb252de84", func := "loop.example/foxcalculus/laws.FnPolyOver", spec := "fnPolyOver", unfollowed := true, recurses := true, apart := false, narrowed := true }
def FnPolyOverUptoSaid : Prop := fnPolyOverUptoRow.holds Try.pinned (OpenSpec.upto fnPolyOverSpec)

/-- 'laws.FnPolyAlike', WHERE WHAT IT READS IS OF BULK AT MOST 1048576: true; the input reads as it did. -/
def fnPolyAlikeUptoRow : OpenClaim := { program := "ytocklmiappppgaa", sum := "19adc0433766dd23504c38e847d6c36b0c33889e34f6698b072f8effb252de84", func := "loop.example/foxcalculus/laws.FnPolyAlike", spec := "fnPolyAlike", unfollowed := true, recurses := true, apart := false, narrowed := true }
def FnPolyAlikeUptoSaid : Prop := fnPolyAlikeUptoRow.holds Try.pinned (OpenSpec.upto fnPolyAlikeSpec)

/-- 'laws.FnExactPolyIn', WHERE WHAT IT READS IS OF BULK AT MOST 1048576: true; the input reads as it did. -/
def fnExactPolyInUptoRow : OpenClaim := { program := "ytocklmiappppgaa", sum := "19adc0433766dd23504c38e847d6c36b0c33889e34f6698b072f8effb252de84", func := "loop.example/foxcalculus/laws.FnExactPolyIn", spec := "fnExactPolyIn", unfollowed := true, recurses := true, apart := false, narrowed := true }
def FnExactPolyInUptoSaid : Prop := fnExactPolyInUptoRow.holds Try.pinned (OpenSpec.upto fnExactPolyInSpec)

/-- 'laws.FnExactPolyOf', WHERE WHAT IT READS IS OF BULK AT MOST 1048576: true; the input reads as it did. -/
def fnExactPolyOfUptoRow : OpenClaim := { program := "ytocklmiappppgaa", sum := "19adc0433766dd23504c38e847d6c36b0c33889e34f6698b072f8effb252de84", func := "loop.example/foxcalculus/laws.FnExactPolyOf", spec := "fnExactPolyOf", unfollowed := true, recurses := true, apart := false, narrowed := true }
def FnExactPolyOfUptoSaid : Prop := fnExactPolyOfUptoRow.holds Try.pinned (OpenSpec.upto fnExactPolyOfSpec)

/-- 'laws.FnExactPolyAdd', WHERE WHAT IT READS IS OF BULK AT MOST 1048576: true; the input reads as it did. -/
def fnExactPolyAddUptoRow : OpenClaim := { program := "ytocklmiappppgaa", sum := "19adc0433766dd23504c38e847d6c36b0c33889e34f6698b072f8effb252de84", func := "loop.example/foxcalculus/laws.FnExactPolyAdd", spec := "fnExactPolyAdd", unfollowed := true, recurses := true, apart := false, narrowed := true }
def FnExactPolyAddUptoSaid : Prop := fnExactPolyAddUptoRow.holds Try.pinned (OpenSpec.upto fnExactPolyAddSpec)

/-- 'laws.FnExactPolyTimes', WHERE WHAT IT READS IS OF BULK AT MOST 1048576: true; the input reads as it did. -/
def fnExactPolyTimesUptoRow : OpenClaim := { program := "ytocklmiappppgaa", sum := "19adc0433766dd23504c38e847d6c36b0c33889e34f6698b072f8effb252de84", func := "loop.example/foxcalculus/laws.FnExactPolyTimes", spec := "fnExactPolyTimes", unfollowed := true, recurses := true, apart := false, narrowed := true }
def FnExactPolyTimesUptoSaid : Prop := fnExactPolyTimesUptoRow.holds Try.pinned (OpenSpec.upto fnExactPolyTimesSpec)

/-- 'laws.FnExactPolyTurned', WHERE WHAT IT READS IS OF BULK AT MOST 1048576: true; the input reads as it did. -/
def fnExactPolyTurnedUptoRow : OpenClaim := { program := "ytocklmiappppgaa", sum := "19adc0433766dd23504c38e847d6c36b0c33889e34f6698b072f8effb252de84", func := "loop.example/foxcalculus/laws.FnExactPolyTurned", spec := "fnExactPolyTurned", unfollowed := true, recurses := true, apart := false, narrowed := true }
def FnExactPolyTurnedUptoSaid : Prop := fnExactPolyTurnedUptoRow.holds Try.pinned (OpenSpec.upto fnExactPolyTurnedSpec)

/-- 'laws.FnExactPolyPlain', WHERE WHAT IT READS IS OF BULK AT MOST 1048576: true; the input reads as it did. -/
def fnExactPolyPlainUptoRow : OpenClaim := { program := "ytocklmiappppgaa", sum := "19adc0433766dd23504c38e847d6c36b0c33889e34f6698b072f8effb252de84", func := "loop.example/foxcalculus/laws.FnExactPolyPlain", spec := "fnExactPolyPlain", unfollowed := true, recurses := true, apart := false, narrowed := true }
def FnExactPolyPlainUptoSaid : Prop := fnExactPolyPlainUptoRow.holds Try.pinned (OpenSpec.upto fnExactPolyPlainSpec)

/-- 'laws.FnExactPolyOne', WHERE WHAT IT READS IS OF BULK AT MOST 1048576: true; the input reads as it did. -/
def fnExactPolyOneUptoRow : OpenClaim := { program := "ytocklmiappppgaa", sum := "19adc0433766dd23504c38e847d6c36b0c33889e34f6698b072f8effb252de84", func := "loop.example/foxcalculus/laws.FnExactPolyOne", spec := "fnExactPolyOne", unfollowed := true, recurses := true, apart := false, narrowed := true }
def FnExactPolyOneUptoSaid : Prop := fnExactPolyOneUptoRow.holds Try.pinned (OpenSpec.upto fnExactPolyOneSpec)

/-- 'laws.FnExactPolyOver', WHERE WHAT IT READS IS OF BULK AT MOST 1048576: true; the input reads as it did. -/
def fnExactPolyOverUptoRow : OpenClaim := { program := "ytocklmiappppgaa", sum := "19adc0433766dd23504c38e847d6c36b0c33889e34f6698b072f8effb252de84", func := "loop.example/foxcalculus/laws.FnExactPolyOver", spec := "fnExactPolyOver", unfollowed := true, recurses := true, apart := false, narrowed := true }
def FnExactPolyOverUptoSaid : Prop := fnExactPolyOverUptoRow.holds Try.pinned (OpenSpec.upto fnExactPolyOverSpec)

/-- 'laws.FnExactPolyAlike', WHERE WHAT IT READS IS OF BULK AT MOST 1048576: true; the input reads as it did. -/
def fnExactPolyAlikeUptoRow : OpenClaim := { program := "ytocklmiappppgaa", sum := "19adc0433766dd23504c38e847d6c36b0c33889e34f6698b072f8effb252de84", func := "loop.example/foxcalculus/laws.FnExactPolyAlike", spec := "fnExactPolyAlike", unfollowed := true, recurses := true, apart := false, narrowed := true }
def FnExactPolyAlikeUptoSaid : Prop := fnExactPolyAlikeUptoRow.holds Try.pinned (OpenSpec.upto fnExactPolyAlikeSpec)

/-- 'laws.FnExactPolyOfSum', WHERE WHAT IT READS IS OF BULK AT MOST 1048576: true; the input reads as it did. -/
def fnExactPolyOfSumUptoRow : OpenClaim := { program := "ytocklmiappppgaa", sum := "19adc0433766dd23504c38e847d6c36b0c33889e34f6698b072f8effb252de84", func := "loop.example/foxcalculus/laws.FnExactPolyOfSum", spec := "fnExactPolyOfSum", inPlace := ["internal/bytealg.abigen_runtime_cmpstring"], unfollowed := true, recurses := true, apart := false, narrowed := true }
def FnExactPolyOfSumUptoSaid : Prop := fnExactPolyOfSumUptoRow.holds Try.pinned (OpenSpec.upto fnExactPolyOfSumSpec)

end Rows
end Go.Proofs.Ytocklmiappppgaa

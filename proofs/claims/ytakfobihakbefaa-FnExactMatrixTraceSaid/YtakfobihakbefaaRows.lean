/-
  No cell of these rows narrows 'for every input' (looked for: loops, veiled, ifaces, maps, wideKeys, modest, calm, conditions, laid).
  DERIVED. THE GIVEN ROWS OF THIS SEAT. 21 by the template 'for every input the law returns true; each argument reads behind the call as it read before'; 0 by the template 'total and deterministic' (their statements: YtakfobihakbefaaTotals.lean).
  GIVEN WITH THE SEED: the statements are not yours to turn. If you find one false, say at which input.
  Laid BY PROGRAM, IN A SANDBOX (cutbox-rows.mjs): the forced cells as the released guide's own fill.sh prints them over the translation 797b1b766f17394c… (all of the seat's roots in one cut). By AI agents, Wed Nov 11 2026. No macro, syntax, notation, axiom, sorry.
-/
import Derived.Test.YtakfobihakbefaaChecked
import GoSem.Claim
import GoSem.ClaimJoined
import GoSem.ClaimMapViews
import Derived.JoinedTies
import Derived.KernelRfl
namespace Go.Proofs.Ytakfobihakbefaa
/- THE CELL 'sum', in the pinned program and in every row, IS THE sha256 OF THE DUMP (.gsa) THAT YtakfobihakbefaaProg.lean LOADS. Nothing in Lean hashes anything: it is a label: what it is worth is what the hold of that sum in a sandbox is worth. -/
noncomputable def Try.pinned : Pinned := { name := "ytakfobihakbefaa", sum := "797b1b766f17394c50bc11a1d09530f17f4a8904d477e6d233e0031d1ceacd49", checked := Try.checked }
namespace Rows
def none {H : Type} : Left H := { results := [], args := [] }

/-- 'laws.FnPolyPlain': WHATEVER THE INPUT: true; the input reads as it did. -/
def fnPolyPlainSpec : ChangeSpec := { name := "fnPolyPlain", fn := fun _ => fun
  | [d] => { results := [.lit (.bool true)], args := [d] }
  | _ => none }
def fnPolyPlainRow : OpenClaim := { program := "ytakfobihakbefaa", sum := "797b1b766f17394c50bc11a1d09530f17f4a8904d477e6d233e0031d1ceacd49", func := "loop.example/foxcalculus/laws.FnPolyPlain", spec := "fnPolyPlain", unfollowed := true, recurses := true, apart := false }
def FnPolyPlainSaid : Prop := fnPolyPlainRow.holds Try.pinned (OpenSpec.ofChange fnPolyPlainSpec)

/-- ITS FALSE NEIGHBOUR: 'it returns false'. Refute it at one input. -/
def fnPolyPlainWrong : ChangeSpec := { name := "fnPolyPlain", fn := fun _ => fun
  | [d] => { results := [.lit (.bool false)], args := [d] }
  | _ => none }
def FnPolyPlainWrongFalsely : Prop := fnPolyPlainRow.holds Try.pinned (OpenSpec.ofChange fnPolyPlainWrong)

/-- 'laws.FnPolyAlike': WHATEVER THE INPUT: true; the input reads as it did. -/
def fnPolyAlikeSpec : ChangeSpec := { name := "fnPolyAlike", fn := fun _ => fun
  | [d] => { results := [.lit (.bool true)], args := [d] }
  | _ => none }
def fnPolyAlikeRow : OpenClaim := { program := "ytakfobihakbefaa", sum := "797b1b766f17394c50bc11a1d09530f17f4a8904d477e6d233e0031d1ceacd49", func := "loop.example/foxcalculus/laws.FnPolyAlike", spec := "fnPolyAlike", unfollowed := true, recurses := true, apart := false }
def FnPolyAlikeSaid : Prop := fnPolyAlikeRow.holds Try.pinned (OpenSpec.ofChange fnPolyAlikeSpec)

/-- ITS FALSE NEIGHBOUR: 'it returns false'. Refute it at one input. -/
def fnPolyAlikeWrong : ChangeSpec := { name := "fnPolyAlike", fn := fun _ => fun
  | [d] => { results := [.lit (.bool false)], args := [d] }
  | _ => none }
def FnPolyAlikeWrongFalsely : Prop := fnPolyAlikeRow.holds Try.pinned (OpenSpec.ofChange fnPolyAlikeWrong)

/-- 'laws.FnMatrix': WHATEVER THE INPUT: true; the input reads as it did. -/
def fnMatrixSpec : ChangeSpec := { name := "fnMatrix", fn := fun _ => fun
  | [d] => { results := [.lit (.bool true)], args := [d] }
  | _ => none }
def fnMatrixRow : OpenClaim := { program := "ytakfobihakbefaa", sum := "797b1b766f17394c50bc11a1d09530f17f4a8904d477e6d233e0031d1ceacd49", func := "loop.example/foxcalculus/laws.FnMatrix", spec := "fnMatrix", unfollowed := true, recurses := true, apart := false }
def FnMatrixSaid : Prop := fnMatrixRow.holds Try.pinned (OpenSpec.ofChange fnMatrixSpec)

/-- ITS FALSE NEIGHBOUR: 'it returns false'. Refute it at one input. -/
def fnMatrixWrong : ChangeSpec := { name := "fnMatrix", fn := fun _ => fun
  | [d] => { results := [.lit (.bool false)], args := [d] }
  | _ => none }
def FnMatrixWrongFalsely : Prop := fnMatrixRow.holds Try.pinned (OpenSpec.ofChange fnMatrixWrong)

/-- 'laws.FnMatrixOne': WHATEVER THE INPUT: true; the input reads as it did. -/
def fnMatrixOneSpec : ChangeSpec := { name := "fnMatrixOne", fn := fun _ => fun
  | [d] => { results := [.lit (.bool true)], args := [d] }
  | _ => none }
def fnMatrixOneRow : OpenClaim := { program := "ytakfobihakbefaa", sum := "797b1b766f17394c50bc11a1d09530f17f4a8904d477e6d233e0031d1ceacd49", func := "loop.example/foxcalculus/laws.FnMatrixOne", spec := "fnMatrixOne", unfollowed := true, recurses := true, apart := false }
def FnMatrixOneSaid : Prop := fnMatrixOneRow.holds Try.pinned (OpenSpec.ofChange fnMatrixOneSpec)

/-- ITS FALSE NEIGHBOUR: 'it returns false'. Refute it at one input. -/
def fnMatrixOneWrong : ChangeSpec := { name := "fnMatrixOne", fn := fun _ => fun
  | [d] => { results := [.lit (.bool false)], args := [d] }
  | _ => none }
def FnMatrixOneWrongFalsely : Prop := fnMatrixOneRow.holds Try.pinned (OpenSpec.ofChange fnMatrixOneWrong)

/-- 'laws.FnMatrixTimes': WHATEVER THE INPUT: true; the input reads as it did. -/
def fnMatrixTimesSpec : ChangeSpec := { name := "fnMatrixTimes", fn := fun _ => fun
  | [d] => { results := [.lit (.bool true)], args := [d] }
  | _ => none }
def fnMatrixTimesRow : OpenClaim := { program := "ytakfobihakbefaa", sum := "797b1b766f17394c50bc11a1d09530f17f4a8904d477e6d233e0031d1ceacd49", func := "loop.example/foxcalculus/laws.FnMatrixTimes", spec := "fnMatrixTimes", unfollowed := true, recurses := true, apart := false }
def FnMatrixTimesSaid : Prop := fnMatrixTimesRow.holds Try.pinned (OpenSpec.ofChange fnMatrixTimesSpec)

/-- ITS FALSE NEIGHBOUR: 'it returns false'. Refute it at one input. -/
def fnMatrixTimesWrong : ChangeSpec := { name := "fnMatrixTimes", fn := fun _ => fun
  | [d] => { results := [.lit (.bool false)], args := [d] }
  | _ => none }
def FnMatrixTimesWrongFalsely : Prop := fnMatrixTimesRow.holds Try.pinned (OpenSpec.ofChange fnMatrixTimesWrong)

/-- 'laws.FnMatrixDet': WHATEVER THE INPUT: true; the input reads as it did. -/
def fnMatrixDetSpec : ChangeSpec := { name := "fnMatrixDet", fn := fun _ => fun
  | [d] => { results := [.lit (.bool true)], args := [d] }
  | _ => none }
def fnMatrixDetRow : OpenClaim := { program := "ytakfobihakbefaa", sum := "797b1b766f17394c50bc11a1d09530f17f4a8904d477e6d233e0031d1ceacd49", func := "loop.example/foxcalculus/laws.FnMatrixDet", spec := "fnMatrixDet", unfollowed := true, recurses := true, apart := false }
def FnMatrixDetSaid : Prop := fnMatrixDetRow.holds Try.pinned (OpenSpec.ofChange fnMatrixDetSpec)

/-- ITS FALSE NEIGHBOUR: 'it returns false'. Refute it at one input. -/
def fnMatrixDetWrong : ChangeSpec := { name := "fnMatrixDet", fn := fun _ => fun
  | [d] => { results := [.lit (.bool false)], args := [d] }
  | _ => none }
def FnMatrixDetWrongFalsely : Prop := fnMatrixDetRow.holds Try.pinned (OpenSpec.ofChange fnMatrixDetWrong)

/-- 'laws.FnMatrixLess': WHATEVER THE INPUT: true; the input reads as it did. -/
def fnMatrixLessSpec : ChangeSpec := { name := "fnMatrixLess", fn := fun _ => fun
  | [d] => { results := [.lit (.bool true)], args := [d] }
  | _ => none }
def fnMatrixLessRow : OpenClaim := { program := "ytakfobihakbefaa", sum := "797b1b766f17394c50bc11a1d09530f17f4a8904d477e6d233e0031d1ceacd49", func := "loop.example/foxcalculus/laws.FnMatrixLess", spec := "fnMatrixLess", unfollowed := true, recurses := true, apart := false }
def FnMatrixLessSaid : Prop := fnMatrixLessRow.holds Try.pinned (OpenSpec.ofChange fnMatrixLessSpec)

/-- ITS FALSE NEIGHBOUR: 'it returns false'. Refute it at one input. -/
def fnMatrixLessWrong : ChangeSpec := { name := "fnMatrixLess", fn := fun _ => fun
  | [d] => { results := [.lit (.bool false)], args := [d] }
  | _ => none }
def FnMatrixLessWrongFalsely : Prop := fnMatrixLessRow.holds Try.pinned (OpenSpec.ofChange fnMatrixLessWrong)

/-- 'laws.FnFlip': WHATEVER THE INPUT: true; the input reads as it did. -/
def fnFlipSpec : ChangeSpec := { name := "fnFlip", fn := fun _ => fun
  | [d] => { results := [.lit (.bool true)], args := [d] }
  | _ => none }
def fnFlipRow : OpenClaim := { program := "ytakfobihakbefaa", sum := "797b1b766f17394c50bc11a1d09530f17f4a8904d477e6d233e0031d1ceacd49", func := "loop.example/foxcalculus/laws.FnFlip", spec := "fnFlip", unfollowed := true, recurses := true, apart := false }
def FnFlipSaid : Prop := fnFlipRow.holds Try.pinned (OpenSpec.ofChange fnFlipSpec)

/-- ITS FALSE NEIGHBOUR: 'it returns false'. Refute it at one input. -/
def fnFlipWrong : ChangeSpec := { name := "fnFlip", fn := fun _ => fun
  | [d] => { results := [.lit (.bool false)], args := [d] }
  | _ => none }
def FnFlipWrongFalsely : Prop := fnFlipRow.holds Try.pinned (OpenSpec.ofChange fnFlipWrong)

/-- 'laws.FnCut': WHATEVER THE INPUT: true; the input reads as it did. -/
def fnCutSpec : ChangeSpec := { name := "fnCut", fn := fun _ => fun
  | [d] => { results := [.lit (.bool true)], args := [d] }
  | _ => none }
def fnCutRow : OpenClaim := { program := "ytakfobihakbefaa", sum := "797b1b766f17394c50bc11a1d09530f17f4a8904d477e6d233e0031d1ceacd49", func := "loop.example/foxcalculus/laws.FnCut", spec := "fnCut", unfollowed := true, recurses := true, apart := false }
def FnCutSaid : Prop := fnCutRow.holds Try.pinned (OpenSpec.ofChange fnCutSpec)

/-- ITS FALSE NEIGHBOUR: 'it returns false'. Refute it at one input. -/
def fnCutWrong : ChangeSpec := { name := "fnCut", fn := fun _ => fun
  | [d] => { results := [.lit (.bool false)], args := [d] }
  | _ => none }
def FnCutWrongFalsely : Prop := fnCutRow.holds Try.pinned (OpenSpec.ofChange fnCutWrong)

/-- 'laws.FnDet': WHATEVER THE INPUT: true; the input reads as it did. -/
def fnDetSpec : ChangeSpec := { name := "fnDet", fn := fun _ => fun
  | [d] => { results := [.lit (.bool true)], args := [d] }
  | _ => none }
def fnDetRow : OpenClaim := { program := "ytakfobihakbefaa", sum := "797b1b766f17394c50bc11a1d09530f17f4a8904d477e6d233e0031d1ceacd49", func := "loop.example/foxcalculus/laws.FnDet", spec := "fnDet", unfollowed := true, recurses := true, apart := false }
def FnDetSaid : Prop := fnDetRow.holds Try.pinned (OpenSpec.ofChange fnDetSpec)

/-- ITS FALSE NEIGHBOUR: 'it returns false'. Refute it at one input. -/
def fnDetWrong : ChangeSpec := { name := "fnDet", fn := fun _ => fun
  | [d] => { results := [.lit (.bool false)], args := [d] }
  | _ => none }
def FnDetWrongFalsely : Prop := fnDetRow.holds Try.pinned (OpenSpec.ofChange fnDetWrong)

/-- 'laws.FnTrace': WHATEVER THE INPUT: true; the input reads as it did. -/
def fnTraceSpec : ChangeSpec := { name := "fnTrace", fn := fun _ => fun
  | [d] => { results := [.lit (.bool true)], args := [d] }
  | _ => none }
def fnTraceRow : OpenClaim := { program := "ytakfobihakbefaa", sum := "797b1b766f17394c50bc11a1d09530f17f4a8904d477e6d233e0031d1ceacd49", func := "loop.example/foxcalculus/laws.FnTrace", spec := "fnTrace", unfollowed := true, recurses := true, apart := false }
def FnTraceSaid : Prop := fnTraceRow.holds Try.pinned (OpenSpec.ofChange fnTraceSpec)

/-- ITS FALSE NEIGHBOUR: 'it returns false'. Refute it at one input. -/
def fnTraceWrong : ChangeSpec := { name := "fnTrace", fn := fun _ => fun
  | [d] => { results := [.lit (.bool false)], args := [d] }
  | _ => none }
def FnTraceWrongFalsely : Prop := fnTraceRow.holds Try.pinned (OpenSpec.ofChange fnTraceWrong)

/-- 'laws.FnExactPolyPlain': WHATEVER THE INPUT: true; the input reads as it did. -/
def fnExactPolyPlainSpec : ChangeSpec := { name := "fnExactPolyPlain", fn := fun _ => fun
  | [d] => { results := [.lit (.bool true)], args := [d] }
  | _ => none }
def fnExactPolyPlainRow : OpenClaim := { program := "ytakfobihakbefaa", sum := "797b1b766f17394c50bc11a1d09530f17f4a8904d477e6d233e0031d1ceacd49", func := "loop.example/foxcalculus/laws.FnExactPolyPlain", spec := "fnExactPolyPlain", unfollowed := true, recurses := true, apart := false }
def FnExactPolyPlainSaid : Prop := fnExactPolyPlainRow.holds Try.pinned (OpenSpec.ofChange fnExactPolyPlainSpec)

/-- ITS FALSE NEIGHBOUR: 'it returns false'. Refute it at one input. -/
def fnExactPolyPlainWrong : ChangeSpec := { name := "fnExactPolyPlain", fn := fun _ => fun
  | [d] => { results := [.lit (.bool false)], args := [d] }
  | _ => none }
def FnExactPolyPlainWrongFalsely : Prop := fnExactPolyPlainRow.holds Try.pinned (OpenSpec.ofChange fnExactPolyPlainWrong)

/-- 'laws.FnExactPolyAlike': WHATEVER THE INPUT: true; the input reads as it did. -/
def fnExactPolyAlikeSpec : ChangeSpec := { name := "fnExactPolyAlike", fn := fun _ => fun
  | [d1, d2] => { results := [.lit (.bool true)], args := [d1, d2] }
  | _ => none }
def fnExactPolyAlikeRow : OpenClaim := { program := "ytakfobihakbefaa", sum := "797b1b766f17394c50bc11a1d09530f17f4a8904d477e6d233e0031d1ceacd49", func := "loop.example/foxcalculus/laws.FnExactPolyAlike", spec := "fnExactPolyAlike", unfollowed := true, recurses := true, apart := false }
def FnExactPolyAlikeSaid : Prop := fnExactPolyAlikeRow.holds Try.pinned (OpenSpec.ofChange fnExactPolyAlikeSpec)

/-- ITS FALSE NEIGHBOUR: 'it returns false'. Refute it at one input. -/
def fnExactPolyAlikeWrong : ChangeSpec := { name := "fnExactPolyAlike", fn := fun _ => fun
  | [d1, d2] => { results := [.lit (.bool false)], args := [d1, d2] }
  | _ => none }
def FnExactPolyAlikeWrongFalsely : Prop := fnExactPolyAlikeRow.holds Try.pinned (OpenSpec.ofChange fnExactPolyAlikeWrong)

/-- 'laws.FnExactMatrixIn': WHATEVER THE INPUT: true; the input reads as it did. -/
def fnExactMatrixInSpec : ChangeSpec := { name := "fnExactMatrixIn", fn := fun _ => fun
  | [d] => { results := [.lit (.bool true)], args := [d] }
  | _ => none }
def fnExactMatrixInRow : OpenClaim := { program := "ytakfobihakbefaa", sum := "797b1b766f17394c50bc11a1d09530f17f4a8904d477e6d233e0031d1ceacd49", func := "loop.example/foxcalculus/laws.FnExactMatrixIn", spec := "fnExactMatrixIn", unfollowed := true, recurses := true, apart := false }
def FnExactMatrixInSaid : Prop := fnExactMatrixInRow.holds Try.pinned (OpenSpec.ofChange fnExactMatrixInSpec)

/-- ITS FALSE NEIGHBOUR: 'it returns false'. Refute it at one input. -/
def fnExactMatrixInWrong : ChangeSpec := { name := "fnExactMatrixIn", fn := fun _ => fun
  | [d] => { results := [.lit (.bool false)], args := [d] }
  | _ => none }
def FnExactMatrixInWrongFalsely : Prop := fnExactMatrixInRow.holds Try.pinned (OpenSpec.ofChange fnExactMatrixInWrong)

/-- 'laws.FnExactMatrixOne': WHATEVER THE INPUT: true; the input reads as it did. -/
def fnExactMatrixOneSpec : ChangeSpec := { name := "fnExactMatrixOne", fn := fun _ => fun
  | [d] => { results := [.lit (.bool true)], args := [d] }
  | _ => none }
def fnExactMatrixOneRow : OpenClaim := { program := "ytakfobihakbefaa", sum := "797b1b766f17394c50bc11a1d09530f17f4a8904d477e6d233e0031d1ceacd49", func := "loop.example/foxcalculus/laws.FnExactMatrixOne", spec := "fnExactMatrixOne", unfollowed := true, recurses := true, apart := false }
def FnExactMatrixOneSaid : Prop := fnExactMatrixOneRow.holds Try.pinned (OpenSpec.ofChange fnExactMatrixOneSpec)

/-- ITS FALSE NEIGHBOUR: 'it returns false'. Refute it at one input. -/
def fnExactMatrixOneWrong : ChangeSpec := { name := "fnExactMatrixOne", fn := fun _ => fun
  | [d] => { results := [.lit (.bool false)], args := [d] }
  | _ => none }
def FnExactMatrixOneWrongFalsely : Prop := fnExactMatrixOneRow.holds Try.pinned (OpenSpec.ofChange fnExactMatrixOneWrong)

/-- 'laws.FnExactMatrixTimes': WHATEVER THE INPUT: true; the input reads as it did. -/
def fnExactMatrixTimesSpec : ChangeSpec := { name := "fnExactMatrixTimes", fn := fun _ => fun
  | [d1, d2] => { results := [.lit (.bool true)], args := [d1, d2] }
  | _ => none }
def fnExactMatrixTimesRow : OpenClaim := { program := "ytakfobihakbefaa", sum := "797b1b766f17394c50bc11a1d09530f17f4a8904d477e6d233e0031d1ceacd49", func := "loop.example/foxcalculus/laws.FnExactMatrixTimes", spec := "fnExactMatrixTimes", unfollowed := true, recurses := true, apart := false }
def FnExactMatrixTimesSaid : Prop := fnExactMatrixTimesRow.holds Try.pinned (OpenSpec.ofChange fnExactMatrixTimesSpec)

/-- ITS FALSE NEIGHBOUR: 'it returns false'. Refute it at one input. -/
def fnExactMatrixTimesWrong : ChangeSpec := { name := "fnExactMatrixTimes", fn := fun _ => fun
  | [d1, d2] => { results := [.lit (.bool false)], args := [d1, d2] }
  | _ => none }
def FnExactMatrixTimesWrongFalsely : Prop := fnExactMatrixTimesRow.holds Try.pinned (OpenSpec.ofChange fnExactMatrixTimesWrong)

/-- 'laws.FnExactMatrixLess': WHATEVER THE INPUT: true; the input reads as it did. -/
def fnExactMatrixLessSpec : ChangeSpec := { name := "fnExactMatrixLess", fn := fun _ => fun
  | [d1, d2] => { results := [.lit (.bool true)], args := [d1, d2] }
  | _ => none }
def fnExactMatrixLessRow : OpenClaim := { program := "ytakfobihakbefaa", sum := "797b1b766f17394c50bc11a1d09530f17f4a8904d477e6d233e0031d1ceacd49", func := "loop.example/foxcalculus/laws.FnExactMatrixLess", spec := "fnExactMatrixLess", unfollowed := true, recurses := true, apart := false }
def FnExactMatrixLessSaid : Prop := fnExactMatrixLessRow.holds Try.pinned (OpenSpec.ofChange fnExactMatrixLessSpec)

/-- ITS FALSE NEIGHBOUR: 'it returns false'. Refute it at one input. -/
def fnExactMatrixLessWrong : ChangeSpec := { name := "fnExactMatrixLess", fn := fun _ => fun
  | [d1, d2] => { results := [.lit (.bool false)], args := [d1, d2] }
  | _ => none }
def FnExactMatrixLessWrongFalsely : Prop := fnExactMatrixLessRow.holds Try.pinned (OpenSpec.ofChange fnExactMatrixLessWrong)

/-- 'laws.FnExactMatrixFlip': WHATEVER THE INPUT: true; the input reads as it did. -/
def fnExactMatrixFlipSpec : ChangeSpec := { name := "fnExactMatrixFlip", fn := fun _ => fun
  | [d] => { results := [.lit (.bool true)], args := [d] }
  | _ => none }
def fnExactMatrixFlipRow : OpenClaim := { program := "ytakfobihakbefaa", sum := "797b1b766f17394c50bc11a1d09530f17f4a8904d477e6d233e0031d1ceacd49", func := "loop.example/foxcalculus/laws.FnExactMatrixFlip", spec := "fnExactMatrixFlip", unfollowed := true, recurses := true, apart := false }
def FnExactMatrixFlipSaid : Prop := fnExactMatrixFlipRow.holds Try.pinned (OpenSpec.ofChange fnExactMatrixFlipSpec)

/-- ITS FALSE NEIGHBOUR: 'it returns false'. Refute it at one input. -/
def fnExactMatrixFlipWrong : ChangeSpec := { name := "fnExactMatrixFlip", fn := fun _ => fun
  | [d] => { results := [.lit (.bool false)], args := [d] }
  | _ => none }
def FnExactMatrixFlipWrongFalsely : Prop := fnExactMatrixFlipRow.holds Try.pinned (OpenSpec.ofChange fnExactMatrixFlipWrong)

/-- 'laws.FnExactMatrixCut': WHATEVER THE INPUT: true; the input reads as it did. -/
def fnExactMatrixCutSpec : ChangeSpec := { name := "fnExactMatrixCut", fn := fun _ => fun
  | [d1, d2, d3] => { results := [.lit (.bool true)], args := [d1, d2, d3] }
  | _ => none }
def fnExactMatrixCutRow : OpenClaim := { program := "ytakfobihakbefaa", sum := "797b1b766f17394c50bc11a1d09530f17f4a8904d477e6d233e0031d1ceacd49", func := "loop.example/foxcalculus/laws.FnExactMatrixCut", spec := "fnExactMatrixCut", unfollowed := true, recurses := true, apart := false }
def FnExactMatrixCutSaid : Prop := fnExactMatrixCutRow.holds Try.pinned (OpenSpec.ofChange fnExactMatrixCutSpec)

/-- ITS FALSE NEIGHBOUR: 'it returns false'. Refute it at one input. -/
def fnExactMatrixCutWrong : ChangeSpec := { name := "fnExactMatrixCut", fn := fun _ => fun
  | [d1, d2, d3] => { results := [.lit (.bool false)], args := [d1, d2, d3] }
  | _ => none }
def FnExactMatrixCutWrongFalsely : Prop := fnExactMatrixCutRow.holds Try.pinned (OpenSpec.ofChange fnExactMatrixCutWrong)

/-- 'laws.FnExactMatrixDet': WHATEVER THE INPUT: true; the input reads as it did. -/
def fnExactMatrixDetSpec : ChangeSpec := { name := "fnExactMatrixDet", fn := fun _ => fun
  | [d] => { results := [.lit (.bool true)], args := [d] }
  | _ => none }
def fnExactMatrixDetRow : OpenClaim := { program := "ytakfobihakbefaa", sum := "797b1b766f17394c50bc11a1d09530f17f4a8904d477e6d233e0031d1ceacd49", func := "loop.example/foxcalculus/laws.FnExactMatrixDet", spec := "fnExactMatrixDet", unfollowed := true, recurses := true, apart := false }
def FnExactMatrixDetSaid : Prop := fnExactMatrixDetRow.holds Try.pinned (OpenSpec.ofChange fnExactMatrixDetSpec)

/-- ITS FALSE NEIGHBOUR: 'it returns false'. Refute it at one input. -/
def fnExactMatrixDetWrong : ChangeSpec := { name := "fnExactMatrixDet", fn := fun _ => fun
  | [d] => { results := [.lit (.bool false)], args := [d] }
  | _ => none }
def FnExactMatrixDetWrongFalsely : Prop := fnExactMatrixDetRow.holds Try.pinned (OpenSpec.ofChange fnExactMatrixDetWrong)

/-- 'laws.FnExactMatrixTrace': WHATEVER THE INPUT: true; the input reads as it did. -/
def fnExactMatrixTraceSpec : ChangeSpec := { name := "fnExactMatrixTrace", fn := fun _ => fun
  | [d] => { results := [.lit (.bool true)], args := [d] }
  | _ => none }
def fnExactMatrixTraceRow : OpenClaim := { program := "ytakfobihakbefaa", sum := "797b1b766f17394c50bc11a1d09530f17f4a8904d477e6d233e0031d1ceacd49", func := "loop.example/foxcalculus/laws.FnExactMatrixTrace", spec := "fnExactMatrixTrace", unfollowed := true, recurses := true, apart := false }
def FnExactMatrixTraceSaid : Prop := fnExactMatrixTraceRow.holds Try.pinned (OpenSpec.ofChange fnExactMatrixTraceSpec)

/-- ITS FALSE NEIGHBOUR: 'it returns false'. Refute it at one input. -/
def fnExactMatrixTraceWrong : ChangeSpec := { name := "fnExactMatrixTrace", fn := fun _ => fun
  | [d] => { results := [.lit (.bool false)], args := [d] }
  | _ => none }
def FnExactMatrixTraceWrongFalsely : Prop := fnExactMatrixTraceRow.holds Try.pinned (OpenSpec.ofChange fnExactMatrixTraceWrong)

/- THE SECOND FORM. 'bulk': how many values and letters a reading holds, each counted each time it is reached (what is shared counts as often as it is met; a slice's spare places count too). A statement '..UptoSaid' is the law's where the arguments, and the package variables that the reading takes, are together of bulk at most 1048576: NARROWER than '..Said'. Prove '..Said' where nothing that the law and all that it calls make is longer than what came in: it says more and counts as full. Else prove '..UptoSaid'. A law counts once. -/
mutual
def uptoBulk {H : Type} : DataW H → Nat
  | .lit (.string bytes) => bytes.length + 1
  | .lit _ => 1
  | .nil => 1
  | .ptr d => uptoBulk d + 1
  | .slice elems spare => uptoBulkAll elems + uptoBulkAll spare + 1
  | .agg parts => uptoBulkAll parts + 1
  | .iface _ d => uptoBulk d + 1
  | .map entries => uptoBulkEntries entries + 1
  | .held _ => 1
def uptoBulkAll {H : Type} : List (DataW H) → Nat
  | [] => 0
  | d :: r => uptoBulk d + uptoBulkAll r
def uptoBulkEntries {H : Type} : List (Lit × DataW H) → Nat
  | [] => 0
  | x :: r => uptoBulkEntry x + uptoBulkEntries r
def uptoBulkEntry {H : Type} : Lit × DataW H → Nat
  | (.string bytes, d) => bytes.length + uptoBulk d + 1
  | (_, d) => uptoBulk d + 1
 end
def uptoSmall : (H : Type) → List (DataW H) → Bool := fun _ ds => decide (uptoBulkAll ds ≤ 1048576)
def OpenSpec.upto (s : _root_.Go.ChangeSpec) : _root_.Go.OpenSpec := { _root_.Go.OpenSpec.ofChange s with cond := some uptoSmall }

/-- 'laws.FnPolyPlain', WHERE WHAT IT READS IS OF BULK AT MOST 1048576: true; the input reads as it did. -/
def fnPolyPlainUptoRow : OpenClaim := { program := "ytakfobihakbefaa", sum := "797b1b766f17394c50bc11a1d09530f17f4a8904d477e6d233e0031d1ceacd49", func := "loop.example/foxcalculus/laws.FnPolyPlain", spec := "fnPolyPlain", unfollowed := true, recurses := true, apart := false, narrowed := true }
def FnPolyPlainUptoSaid : Prop := fnPolyPlainUptoRow.holds Try.pinned (OpenSpec.upto fnPolyPlainSpec)

/-- 'laws.FnPolyAlike', WHERE WHAT IT READS IS OF BULK AT MOST 1048576: true; the input reads as it did. -/
def fnPolyAlikeUptoRow : OpenClaim := { program := "ytakfobihakbefaa", sum := "797b1b766f17394c50bc11a1d09530f17f4a8904d477e6d233e0031d1ceacd49", func := "loop.example/foxcalculus/laws.FnPolyAlike", spec := "fnPolyAlike", unfollowed := true, recurses := true, apart := false, narrowed := true }
def FnPolyAlikeUptoSaid : Prop := fnPolyAlikeUptoRow.holds Try.pinned (OpenSpec.upto fnPolyAlikeSpec)

/-- 'laws.FnMatrix', WHERE WHAT IT READS IS OF BULK AT MOST 1048576: true; the input reads as it did. -/
def fnMatrixUptoRow : OpenClaim := { program := "ytakfobihakbefaa", sum := "797b1b766f17394c50bc11a1d09530f17f4a8904d477e6d233e0031d1ceacd49", func := "loop.example/foxcalculus/laws.FnMatrix", spec := "fnMatrix", unfollowed := true, recurses := true, apart := false, narrowed := true }
def FnMatrixUptoSaid : Prop := fnMatrixUptoRow.holds Try.pinned (OpenSpec.upto fnMatrixSpec)

/-- 'laws.FnMatrixOne', WHERE WHAT IT READS IS OF BULK AT MOST 1048576: true; the input reads as it did. -/
def fnMatrixOneUptoRow : OpenClaim := { program := "ytakfobihakbefaa", sum := "797b1b766f17394c50bc11a1d09530f17f4a8904d477e6d233e0031d1ceacd49", func := "loop.example/foxcalculus/laws.FnMatrixOne", spec := "fnMatrixOne", unfollowed := true, recurses := true, apart := false, narrowed := true }
def FnMatrixOneUptoSaid : Prop := fnMatrixOneUptoRow.holds Try.pinned (OpenSpec.upto fnMatrixOneSpec)

/-- 'laws.FnMatrixTimes', WHERE WHAT IT READS IS OF BULK AT MOST 1048576: true; the input reads as it did. -/
def fnMatrixTimesUptoRow : OpenClaim := { program := "ytakfobihakbefaa", sum := "797b1b766f17394c50bc11a1d09530f17f4a8904d477e6d233e0031d1ceacd49", func := "loop.example/foxcalculus/laws.FnMatrixTimes", spec := "fnMatrixTimes", unfollowed := true, recurses := true, apart := false, narrowed := true }
def FnMatrixTimesUptoSaid : Prop := fnMatrixTimesUptoRow.holds Try.pinned (OpenSpec.upto fnMatrixTimesSpec)

/-- 'laws.FnMatrixDet', WHERE WHAT IT READS IS OF BULK AT MOST 1048576: true; the input reads as it did. -/
def fnMatrixDetUptoRow : OpenClaim := { program := "ytakfobihakbefaa", sum := "797b1b766f17394c50bc11a1d09530f17f4a8904d477e6d233e0031d1ceacd49", func := "loop.example/foxcalculus/laws.FnMatrixDet", spec := "fnMatrixDet", unfollowed := true, recurses := true, apart := false, narrowed := true }
def FnMatrixDetUptoSaid : Prop := fnMatrixDetUptoRow.holds Try.pinned (OpenSpec.upto fnMatrixDetSpec)

/-- 'laws.FnMatrixLess', WHERE WHAT IT READS IS OF BULK AT MOST 1048576: true; the input reads as it did. -/
def fnMatrixLessUptoRow : OpenClaim := { program := "ytakfobihakbefaa", sum := "797b1b766f17394c50bc11a1d09530f17f4a8904d477e6d233e0031d1ceacd49", func := "loop.example/foxcalculus/laws.FnMatrixLess", spec := "fnMatrixLess", unfollowed := true, recurses := true, apart := false, narrowed := true }
def FnMatrixLessUptoSaid : Prop := fnMatrixLessUptoRow.holds Try.pinned (OpenSpec.upto fnMatrixLessSpec)

/-- 'laws.FnFlip', WHERE WHAT IT READS IS OF BULK AT MOST 1048576: true; the input reads as it did. -/
def fnFlipUptoRow : OpenClaim := { program := "ytakfobihakbefaa", sum := "797b1b766f17394c50bc11a1d09530f17f4a8904d477e6d233e0031d1ceacd49", func := "loop.example/foxcalculus/laws.FnFlip", spec := "fnFlip", unfollowed := true, recurses := true, apart := false, narrowed := true }
def FnFlipUptoSaid : Prop := fnFlipUptoRow.holds Try.pinned (OpenSpec.upto fnFlipSpec)

/-- 'laws.FnCut', WHERE WHAT IT READS IS OF BULK AT MOST 1048576: true; the input reads as it did. -/
def fnCutUptoRow : OpenClaim := { program := "ytakfobihakbefaa", sum := "797b1b766f17394c50bc11a1d09530f17f4a8904d477e6d233e0031d1ceacd49", func := "loop.example/foxcalculus/laws.FnCut", spec := "fnCut", unfollowed := true, recurses := true, apart := false, narrowed := true }
def FnCutUptoSaid : Prop := fnCutUptoRow.holds Try.pinned (OpenSpec.upto fnCutSpec)

/-- 'laws.FnDet', WHERE WHAT IT READS IS OF BULK AT MOST 1048576: true; the input reads as it did. -/
def fnDetUptoRow : OpenClaim := { program := "ytakfobihakbefaa", sum := "797b1b766f17394c50bc11a1d09530f17f4a8904d477e6d233e0031d1ceacd49", func := "loop.example/foxcalculus/laws.FnDet", spec := "fnDet", unfollowed := true, recurses := true, apart := false, narrowed := true }
def FnDetUptoSaid : Prop := fnDetUptoRow.holds Try.pinned (OpenSpec.upto fnDetSpec)

/-- 'laws.FnTrace', WHERE WHAT IT READS IS OF BULK AT MOST 1048576: true; the input reads as it did. -/
def fnTraceUptoRow : OpenClaim := { program := "ytakfobihakbefaa", sum := "797b1b766f17394c50bc11a1d09530f17f4a8904d477e6d233e0031d1ceacd49", func := "loop.example/foxcalculus/laws.FnTrace", spec := "fnTrace", unfollowed := true, recurses := true, apart := false, narrowed := true }
def FnTraceUptoSaid : Prop := fnTraceUptoRow.holds Try.pinned (OpenSpec.upto fnTraceSpec)

/-- 'laws.FnExactPolyPlain', WHERE WHAT IT READS IS OF BULK AT MOST 1048576: true; the input reads as it did. -/
def fnExactPolyPlainUptoRow : OpenClaim := { program := "ytakfobihakbefaa", sum := "797b1b766f17394c50bc11a1d09530f17f4a8904d477e6d233e0031d1ceacd49", func := "loop.example/foxcalculus/laws.FnExactPolyPlain", spec := "fnExactPolyPlain", unfollowed := true, recurses := true, apart := false, narrowed := true }
def FnExactPolyPlainUptoSaid : Prop := fnExactPolyPlainUptoRow.holds Try.pinned (OpenSpec.upto fnExactPolyPlainSpec)

/-- 'laws.FnExactPolyAlike', WHERE WHAT IT READS IS OF BULK AT MOST 1048576: true; the input reads as it did. -/
def fnExactPolyAlikeUptoRow : OpenClaim := { program := "ytakfobihakbefaa", sum := "797b1b766f17394c50bc11a1d09530f17f4a8904d477e6d233e0031d1ceacd49", func := "loop.example/foxcalculus/laws.FnExactPolyAlike", spec := "fnExactPolyAlike", unfollowed := true, recurses := true, apart := false, narrowed := true }
def FnExactPolyAlikeUptoSaid : Prop := fnExactPolyAlikeUptoRow.holds Try.pinned (OpenSpec.upto fnExactPolyAlikeSpec)

/-- 'laws.FnExactMatrixIn', WHERE WHAT IT READS IS OF BULK AT MOST 1048576: true; the input reads as it did. -/
def fnExactMatrixInUptoRow : OpenClaim := { program := "ytakfobihakbefaa", sum := "797b1b766f17394c50bc11a1d09530f17f4a8904d477e6d233e0031d1ceacd49", func := "loop.example/foxcalculus/laws.FnExactMatrixIn", spec := "fnExactMatrixIn", unfollowed := true, recurses := true, apart := false, narrowed := true }
def FnExactMatrixInUptoSaid : Prop := fnExactMatrixInUptoRow.holds Try.pinned (OpenSpec.upto fnExactMatrixInSpec)

/-- 'laws.FnExactMatrixOne', WHERE WHAT IT READS IS OF BULK AT MOST 1048576: true; the input reads as it did. -/
def fnExactMatrixOneUptoRow : OpenClaim := { program := "ytakfobihakbefaa", sum := "797b1b766f17394c50bc11a1d09530f17f4a8904d477e6d233e0031d1ceacd49", func := "loop.example/foxcalculus/laws.FnExactMatrixOne", spec := "fnExactMatrixOne", unfollowed := true, recurses := true, apart := false, narrowed := true }
def FnExactMatrixOneUptoSaid : Prop := fnExactMatrixOneUptoRow.holds Try.pinned (OpenSpec.upto fnExactMatrixOneSpec)

/-- 'laws.FnExactMatrixTimes', WHERE WHAT IT READS IS OF BULK AT MOST 1048576: true; the input reads as it did. -/
def fnExactMatrixTimesUptoRow : OpenClaim := { program := "ytakfobihakbefaa", sum := "797b1b766f17394c50bc11a1d09530f17f4a8904d477e6d233e0031d1ceacd49", func := "loop.example/foxcalculus/laws.FnExactMatrixTimes", spec := "fnExactMatrixTimes", unfollowed := true, recurses := true, apart := false, narrowed := true }
def FnExactMatrixTimesUptoSaid : Prop := fnExactMatrixTimesUptoRow.holds Try.pinned (OpenSpec.upto fnExactMatrixTimesSpec)

/-- 'laws.FnExactMatrixLess', WHERE WHAT IT READS IS OF BULK AT MOST 1048576: true; the input reads as it did. -/
def fnExactMatrixLessUptoRow : OpenClaim := { program := "ytakfobihakbefaa", sum := "797b1b766f17394c50bc11a1d09530f17f4a8904d477e6d233e0031d1ceacd49", func := "loop.example/foxcalculus/laws.FnExactMatrixLess", spec := "fnExactMatrixLess", unfollowed := true, recurses := true, apart := false, narrowed := true }
def FnExactMatrixLessUptoSaid : Prop := fnExactMatrixLessUptoRow.holds Try.pinned (OpenSpec.upto fnExactMatrixLessSpec)

/-- 'laws.FnExactMatrixFlip', WHERE WHAT IT READS IS OF BULK AT MOST 1048576: true; the input reads as it did. -/
def fnExactMatrixFlipUptoRow : OpenClaim := { program := "ytakfobihakbefaa", sum := "797b1b766f17394c50bc11a1d09530f17f4a8904d477e6d233e0031d1ceacd49", func := "loop.example/foxcalculus/laws.FnExactMatrixFlip", spec := "fnExactMatrixFlip", unfollowed := true, recurses := true, apart := false, narrowed := true }
def FnExactMatrixFlipUptoSaid : Prop := fnExactMatrixFlipUptoRow.holds Try.pinned (OpenSpec.upto fnExactMatrixFlipSpec)

/-- 'laws.FnExactMatrixCut', WHERE WHAT IT READS IS OF BULK AT MOST 1048576: true; the input reads as it did. -/
def fnExactMatrixCutUptoRow : OpenClaim := { program := "ytakfobihakbefaa", sum := "797b1b766f17394c50bc11a1d09530f17f4a8904d477e6d233e0031d1ceacd49", func := "loop.example/foxcalculus/laws.FnExactMatrixCut", spec := "fnExactMatrixCut", unfollowed := true, recurses := true, apart := false, narrowed := true }
def FnExactMatrixCutUptoSaid : Prop := fnExactMatrixCutUptoRow.holds Try.pinned (OpenSpec.upto fnExactMatrixCutSpec)

/-- 'laws.FnExactMatrixDet', WHERE WHAT IT READS IS OF BULK AT MOST 1048576: true; the input reads as it did. -/
def fnExactMatrixDetUptoRow : OpenClaim := { program := "ytakfobihakbefaa", sum := "797b1b766f17394c50bc11a1d09530f17f4a8904d477e6d233e0031d1ceacd49", func := "loop.example/foxcalculus/laws.FnExactMatrixDet", spec := "fnExactMatrixDet", unfollowed := true, recurses := true, apart := false, narrowed := true }
def FnExactMatrixDetUptoSaid : Prop := fnExactMatrixDetUptoRow.holds Try.pinned (OpenSpec.upto fnExactMatrixDetSpec)

/-- 'laws.FnExactMatrixTrace', WHERE WHAT IT READS IS OF BULK AT MOST 1048576: true; the input reads as it did. -/
def fnExactMatrixTraceUptoRow : OpenClaim := { program := "ytakfobihakbefaa", sum := "797b1b766f17394c50bc11a1d09530f17f4a8904d477e6d233e0031d1ceacd49", func := "loop.example/foxcalculus/laws.FnExactMatrixTrace", spec := "fnExactMatrixTrace", unfollowed := true, recurses := true, apart := false, narrowed := true }
def FnExactMatrixTraceUptoSaid : Prop := fnExactMatrixTraceUptoRow.holds Try.pinned (OpenSpec.upto fnExactMatrixTraceSpec)

end Rows
end Go.Proofs.Ytakfobihakbefaa

/-
  No cell of these rows narrows 'for every input' (looked for: loops, veiled, ifaces, maps, wideKeys, modest, calm, conditions, laid).
  DERIVED. THE GIVEN ROWS OF THIS SEAT. 21 by the template 'for every input the law returns true; each argument reads behind the call as it read before'; 0 by the template 'total and deterministic' (their statements: YtbbkpaledlbcmaaTotals.lean).
  GIVEN WITH THE SEED: the statements are not yours to turn. If you find one false, say at which input.
  Laid BY PROGRAM, IN A SANDBOX (cutbox-rows.mjs): the forced cells as the released guide's own fill.sh prints them over the translation 49bcaa6d096b020b… (all of the seat's roots in one cut). By AI agents, Wed Nov 11 2026. No macro, syntax, notation, axiom, sorry.
-/
import Derived.Test.YtbbkpaledlbcmaaChecked
import GoSem.Claim
import GoSem.ClaimJoined
import GoSem.ClaimMapViews
import Derived.JoinedTies
import Derived.KernelRfl
namespace Go.Proofs.Ytbbkpaledlbcmaa
/- THE CELL 'sum', in the pinned program and in every row, IS THE sha256 OF THE DUMP (.gsa) THAT YtbbkpaledlbcmaaProg.lean LOADS. Nothing in Lean hashes anything: it is a label: what it is worth is what the hold of that sum in a sandbox is worth. -/
noncomputable def Try.pinned : Pinned := { name := "ytbbkpaledlbcmaa", sum := "49bcaa6d096b020bb54aac3bf79d55643b8fe7fea3e8edef8e91a7776accc3d8", checked := Try.checked }
namespace Rows
def none {H : Type} : Left H := { results := [], args := [] }

/-- 'laws.FnMatrix': WHATEVER THE INPUT: true; the input reads as it did. -/
def fnMatrixSpec : ChangeSpec := { name := "fnMatrix", fn := fun _ => fun
  | [d] => { results := [.lit (.bool true)], args := [d] }
  | _ => none }
def fnMatrixRow : OpenClaim := { program := "ytbbkpaledlbcmaa", sum := "49bcaa6d096b020bb54aac3bf79d55643b8fe7fea3e8edef8e91a7776accc3d8", func := "loop.example/foxcalculus/laws.FnMatrix", spec := "fnMatrix", unfollowed := true, recurses := true, leaving := true, apart := false }
def FnMatrixSaid : Prop := fnMatrixRow.holds Try.pinned (OpenSpec.ofChange fnMatrixSpec)

/-- ITS FALSE NEIGHBOUR: 'it returns false'. Refute it at one input. -/
def fnMatrixWrong : ChangeSpec := { name := "fnMatrix", fn := fun _ => fun
  | [d] => { results := [.lit (.bool false)], args := [d] }
  | _ => none }
def FnMatrixWrongFalsely : Prop := fnMatrixRow.holds Try.pinned (OpenSpec.ofChange fnMatrixWrong)

/-- 'laws.FnMatrixOne': WHATEVER THE INPUT: true; the input reads as it did. -/
def fnMatrixOneSpec : ChangeSpec := { name := "fnMatrixOne", fn := fun _ => fun
  | [d] => { results := [.lit (.bool true)], args := [d] }
  | _ => none }
def fnMatrixOneRow : OpenClaim := { program := "ytbbkpaledlbcmaa", sum := "49bcaa6d096b020bb54aac3bf79d55643b8fe7fea3e8edef8e91a7776accc3d8", func := "loop.example/foxcalculus/laws.FnMatrixOne", spec := "fnMatrixOne", unfollowed := true, recurses := true, leaving := true, apart := false }
def FnMatrixOneSaid : Prop := fnMatrixOneRow.holds Try.pinned (OpenSpec.ofChange fnMatrixOneSpec)

/-- ITS FALSE NEIGHBOUR: 'it returns false'. Refute it at one input. -/
def fnMatrixOneWrong : ChangeSpec := { name := "fnMatrixOne", fn := fun _ => fun
  | [d] => { results := [.lit (.bool false)], args := [d] }
  | _ => none }
def FnMatrixOneWrongFalsely : Prop := fnMatrixOneRow.holds Try.pinned (OpenSpec.ofChange fnMatrixOneWrong)

/-- 'laws.FnMatrixTimes': WHATEVER THE INPUT: true; the input reads as it did. -/
def fnMatrixTimesSpec : ChangeSpec := { name := "fnMatrixTimes", fn := fun _ => fun
  | [d] => { results := [.lit (.bool true)], args := [d] }
  | _ => none }
def fnMatrixTimesRow : OpenClaim := { program := "ytbbkpaledlbcmaa", sum := "49bcaa6d096b020bb54aac3bf79d55643b8fe7fea3e8edef8e91a7776accc3d8", func := "loop.example/foxcalculus/laws.FnMatrixTimes", spec := "fnMatrixTimes", unfollowed := true, recurses := true, leaving := true, apart := false }
def FnMatrixTimesSaid : Prop := fnMatrixTimesRow.holds Try.pinned (OpenSpec.ofChange fnMatrixTimesSpec)

/-- ITS FALSE NEIGHBOUR: 'it returns false'. Refute it at one input. -/
def fnMatrixTimesWrong : ChangeSpec := { name := "fnMatrixTimes", fn := fun _ => fun
  | [d] => { results := [.lit (.bool false)], args := [d] }
  | _ => none }
def FnMatrixTimesWrongFalsely : Prop := fnMatrixTimesRow.holds Try.pinned (OpenSpec.ofChange fnMatrixTimesWrong)

/-- 'laws.FnMatrixDet': WHATEVER THE INPUT: true; the input reads as it did. -/
def fnMatrixDetSpec : ChangeSpec := { name := "fnMatrixDet", fn := fun _ => fun
  | [d] => { results := [.lit (.bool true)], args := [d] }
  | _ => none }
def fnMatrixDetRow : OpenClaim := { program := "ytbbkpaledlbcmaa", sum := "49bcaa6d096b020bb54aac3bf79d55643b8fe7fea3e8edef8e91a7776accc3d8", func := "loop.example/foxcalculus/laws.FnMatrixDet", spec := "fnMatrixDet", unfollowed := true, recurses := true, leaving := true, apart := false }
def FnMatrixDetSaid : Prop := fnMatrixDetRow.holds Try.pinned (OpenSpec.ofChange fnMatrixDetSpec)

/-- ITS FALSE NEIGHBOUR: 'it returns false'. Refute it at one input. -/
def fnMatrixDetWrong : ChangeSpec := { name := "fnMatrixDet", fn := fun _ => fun
  | [d] => { results := [.lit (.bool false)], args := [d] }
  | _ => none }
def FnMatrixDetWrongFalsely : Prop := fnMatrixDetRow.holds Try.pinned (OpenSpec.ofChange fnMatrixDetWrong)

/-- 'laws.FnMatrixLess': WHATEVER THE INPUT: true; the input reads as it did. -/
def fnMatrixLessSpec : ChangeSpec := { name := "fnMatrixLess", fn := fun _ => fun
  | [d] => { results := [.lit (.bool true)], args := [d] }
  | _ => none }
def fnMatrixLessRow : OpenClaim := { program := "ytbbkpaledlbcmaa", sum := "49bcaa6d096b020bb54aac3bf79d55643b8fe7fea3e8edef8e91a7776accc3d8", func := "loop.example/foxcalculus/laws.FnMatrixLess", spec := "fnMatrixLess", unfollowed := true, recurses := true, leaving := true, apart := false }
def FnMatrixLessSaid : Prop := fnMatrixLessRow.holds Try.pinned (OpenSpec.ofChange fnMatrixLessSpec)

/-- ITS FALSE NEIGHBOUR: 'it returns false'. Refute it at one input. -/
def fnMatrixLessWrong : ChangeSpec := { name := "fnMatrixLess", fn := fun _ => fun
  | [d] => { results := [.lit (.bool false)], args := [d] }
  | _ => none }
def FnMatrixLessWrongFalsely : Prop := fnMatrixLessRow.holds Try.pinned (OpenSpec.ofChange fnMatrixLessWrong)

/-- 'laws.FnFlip': WHATEVER THE INPUT: true; the input reads as it did. -/
def fnFlipSpec : ChangeSpec := { name := "fnFlip", fn := fun _ => fun
  | [d] => { results := [.lit (.bool true)], args := [d] }
  | _ => none }
def fnFlipRow : OpenClaim := { program := "ytbbkpaledlbcmaa", sum := "49bcaa6d096b020bb54aac3bf79d55643b8fe7fea3e8edef8e91a7776accc3d8", func := "loop.example/foxcalculus/laws.FnFlip", spec := "fnFlip", unfollowed := true, recurses := true, leaving := true, apart := false }
def FnFlipSaid : Prop := fnFlipRow.holds Try.pinned (OpenSpec.ofChange fnFlipSpec)

/-- ITS FALSE NEIGHBOUR: 'it returns false'. Refute it at one input. -/
def fnFlipWrong : ChangeSpec := { name := "fnFlip", fn := fun _ => fun
  | [d] => { results := [.lit (.bool false)], args := [d] }
  | _ => none }
def FnFlipWrongFalsely : Prop := fnFlipRow.holds Try.pinned (OpenSpec.ofChange fnFlipWrong)

/-- 'laws.FnCut': WHATEVER THE INPUT: true; the input reads as it did. -/
def fnCutSpec : ChangeSpec := { name := "fnCut", fn := fun _ => fun
  | [d] => { results := [.lit (.bool true)], args := [d] }
  | _ => none }
def fnCutRow : OpenClaim := { program := "ytbbkpaledlbcmaa", sum := "49bcaa6d096b020bb54aac3bf79d55643b8fe7fea3e8edef8e91a7776accc3d8", func := "loop.example/foxcalculus/laws.FnCut", spec := "fnCut", unfollowed := true, recurses := true, leaving := true, apart := false }
def FnCutSaid : Prop := fnCutRow.holds Try.pinned (OpenSpec.ofChange fnCutSpec)

/-- ITS FALSE NEIGHBOUR: 'it returns false'. Refute it at one input. -/
def fnCutWrong : ChangeSpec := { name := "fnCut", fn := fun _ => fun
  | [d] => { results := [.lit (.bool false)], args := [d] }
  | _ => none }
def FnCutWrongFalsely : Prop := fnCutRow.holds Try.pinned (OpenSpec.ofChange fnCutWrong)

/-- 'laws.FnDet': WHATEVER THE INPUT: true; the input reads as it did. -/
def fnDetSpec : ChangeSpec := { name := "fnDet", fn := fun _ => fun
  | [d] => { results := [.lit (.bool true)], args := [d] }
  | _ => none }
def fnDetRow : OpenClaim := { program := "ytbbkpaledlbcmaa", sum := "49bcaa6d096b020bb54aac3bf79d55643b8fe7fea3e8edef8e91a7776accc3d8", func := "loop.example/foxcalculus/laws.FnDet", spec := "fnDet", unfollowed := true, recurses := true, leaving := true, apart := false }
def FnDetSaid : Prop := fnDetRow.holds Try.pinned (OpenSpec.ofChange fnDetSpec)

/-- ITS FALSE NEIGHBOUR: 'it returns false'. Refute it at one input. -/
def fnDetWrong : ChangeSpec := { name := "fnDet", fn := fun _ => fun
  | [d] => { results := [.lit (.bool false)], args := [d] }
  | _ => none }
def FnDetWrongFalsely : Prop := fnDetRow.holds Try.pinned (OpenSpec.ofChange fnDetWrong)

/-- 'laws.FnTrace': WHATEVER THE INPUT: true; the input reads as it did. -/
def fnTraceSpec : ChangeSpec := { name := "fnTrace", fn := fun _ => fun
  | [d] => { results := [.lit (.bool true)], args := [d] }
  | _ => none }
def fnTraceRow : OpenClaim := { program := "ytbbkpaledlbcmaa", sum := "49bcaa6d096b020bb54aac3bf79d55643b8fe7fea3e8edef8e91a7776accc3d8", func := "loop.example/foxcalculus/laws.FnTrace", spec := "fnTrace", unfollowed := true, recurses := true, leaving := true, apart := false }
def FnTraceSaid : Prop := fnTraceRow.holds Try.pinned (OpenSpec.ofChange fnTraceSpec)

/-- ITS FALSE NEIGHBOUR: 'it returns false'. Refute it at one input. -/
def fnTraceWrong : ChangeSpec := { name := "fnTrace", fn := fun _ => fun
  | [d] => { results := [.lit (.bool false)], args := [d] }
  | _ => none }
def FnTraceWrongFalsely : Prop := fnTraceRow.holds Try.pinned (OpenSpec.ofChange fnTraceWrong)

/-- 'laws.FnExactWordSums': WHATEVER THE INPUT: true; the input reads as it did. -/
def fnExactWordSumsSpec : ChangeSpec := { name := "fnExactWordSums", fn := fun _ => fun
  | [d] => { results := [.lit (.bool true)], args := [d] }
  | _ => none }
def fnExactWordSumsRow : OpenClaim := { program := "ytbbkpaledlbcmaa", sum := "49bcaa6d096b020bb54aac3bf79d55643b8fe7fea3e8edef8e91a7776accc3d8", func := "loop.example/foxcalculus/laws.FnExactWordSums", spec := "fnExactWordSums", unfollowed := true, recurses := true, leaving := true, apart := false }
def FnExactWordSumsSaid : Prop := fnExactWordSumsRow.holds Try.pinned (OpenSpec.ofChange fnExactWordSumsSpec)

/-- ITS FALSE NEIGHBOUR: 'it returns false'. Refute it at one input. -/
def fnExactWordSumsWrong : ChangeSpec := { name := "fnExactWordSums", fn := fun _ => fun
  | [d] => { results := [.lit (.bool false)], args := [d] }
  | _ => none }
def FnExactWordSumsWrongFalsely : Prop := fnExactWordSumsRow.holds Try.pinned (OpenSpec.ofChange fnExactWordSumsWrong)

/-- 'laws.FnExactMatrixTimes': WHATEVER THE INPUT: true; the input reads as it did. -/
def fnExactMatrixTimesSpec : ChangeSpec := { name := "fnExactMatrixTimes", fn := fun _ => fun
  | [d1, d2] => { results := [.lit (.bool true)], args := [d1, d2] }
  | _ => none }
def fnExactMatrixTimesRow : OpenClaim := { program := "ytbbkpaledlbcmaa", sum := "49bcaa6d096b020bb54aac3bf79d55643b8fe7fea3e8edef8e91a7776accc3d8", func := "loop.example/foxcalculus/laws.FnExactMatrixTimes", spec := "fnExactMatrixTimes", unfollowed := true, recurses := true, leaving := true, apart := false }
def FnExactMatrixTimesSaid : Prop := fnExactMatrixTimesRow.holds Try.pinned (OpenSpec.ofChange fnExactMatrixTimesSpec)

/-- ITS FALSE NEIGHBOUR: 'it returns false'. Refute it at one input. -/
def fnExactMatrixTimesWrong : ChangeSpec := { name := "fnExactMatrixTimes", fn := fun _ => fun
  | [d1, d2] => { results := [.lit (.bool false)], args := [d1, d2] }
  | _ => none }
def FnExactMatrixTimesWrongFalsely : Prop := fnExactMatrixTimesRow.holds Try.pinned (OpenSpec.ofChange fnExactMatrixTimesWrong)

/-- 'laws.FnExactMatrixLess': WHATEVER THE INPUT: true; the input reads as it did. -/
def fnExactMatrixLessSpec : ChangeSpec := { name := "fnExactMatrixLess", fn := fun _ => fun
  | [d1, d2] => { results := [.lit (.bool true)], args := [d1, d2] }
  | _ => none }
def fnExactMatrixLessRow : OpenClaim := { program := "ytbbkpaledlbcmaa", sum := "49bcaa6d096b020bb54aac3bf79d55643b8fe7fea3e8edef8e91a7776accc3d8", func := "loop.example/foxcalculus/laws.FnExactMatrixLess", spec := "fnExactMatrixLess", unfollowed := true, recurses := true, leaving := true, apart := false }
def FnExactMatrixLessSaid : Prop := fnExactMatrixLessRow.holds Try.pinned (OpenSpec.ofChange fnExactMatrixLessSpec)

/-- ITS FALSE NEIGHBOUR: 'it returns false'. Refute it at one input. -/
def fnExactMatrixLessWrong : ChangeSpec := { name := "fnExactMatrixLess", fn := fun _ => fun
  | [d1, d2] => { results := [.lit (.bool false)], args := [d1, d2] }
  | _ => none }
def FnExactMatrixLessWrongFalsely : Prop := fnExactMatrixLessRow.holds Try.pinned (OpenSpec.ofChange fnExactMatrixLessWrong)

/-- 'laws.FnExactMatrixCut': WHATEVER THE INPUT: true; the input reads as it did. -/
def fnExactMatrixCutSpec : ChangeSpec := { name := "fnExactMatrixCut", fn := fun _ => fun
  | [d1, d2, d3] => { results := [.lit (.bool true)], args := [d1, d2, d3] }
  | _ => none }
def fnExactMatrixCutRow : OpenClaim := { program := "ytbbkpaledlbcmaa", sum := "49bcaa6d096b020bb54aac3bf79d55643b8fe7fea3e8edef8e91a7776accc3d8", func := "loop.example/foxcalculus/laws.FnExactMatrixCut", spec := "fnExactMatrixCut", unfollowed := true, recurses := true, leaving := true, apart := false }
def FnExactMatrixCutSaid : Prop := fnExactMatrixCutRow.holds Try.pinned (OpenSpec.ofChange fnExactMatrixCutSpec)

/-- ITS FALSE NEIGHBOUR: 'it returns false'. Refute it at one input. -/
def fnExactMatrixCutWrong : ChangeSpec := { name := "fnExactMatrixCut", fn := fun _ => fun
  | [d1, d2, d3] => { results := [.lit (.bool false)], args := [d1, d2, d3] }
  | _ => none }
def FnExactMatrixCutWrongFalsely : Prop := fnExactMatrixCutRow.holds Try.pinned (OpenSpec.ofChange fnExactMatrixCutWrong)

/-- 'laws.FnExactMatrixDet': WHATEVER THE INPUT: true; the input reads as it did. -/
def fnExactMatrixDetSpec : ChangeSpec := { name := "fnExactMatrixDet", fn := fun _ => fun
  | [d] => { results := [.lit (.bool true)], args := [d] }
  | _ => none }
def fnExactMatrixDetRow : OpenClaim := { program := "ytbbkpaledlbcmaa", sum := "49bcaa6d096b020bb54aac3bf79d55643b8fe7fea3e8edef8e91a7776accc3d8", func := "loop.example/foxcalculus/laws.FnExactMatrixDet", spec := "fnExactMatrixDet", unfollowed := true, recurses := true, leaving := true, apart := false }
def FnExactMatrixDetSaid : Prop := fnExactMatrixDetRow.holds Try.pinned (OpenSpec.ofChange fnExactMatrixDetSpec)

/-- ITS FALSE NEIGHBOUR: 'it returns false'. Refute it at one input. -/
def fnExactMatrixDetWrong : ChangeSpec := { name := "fnExactMatrixDet", fn := fun _ => fun
  | [d] => { results := [.lit (.bool false)], args := [d] }
  | _ => none }
def FnExactMatrixDetWrongFalsely : Prop := fnExactMatrixDetRow.holds Try.pinned (OpenSpec.ofChange fnExactMatrixDetWrong)

/-- 'laws.FnExactGroupIn': WHATEVER THE INPUT: true; the input reads as it did. -/
def fnExactGroupInSpec : ChangeSpec := { name := "fnExactGroupIn", fn := fun _ => fun
  | [d] => { results := [.lit (.bool true)], args := [d] }
  | _ => none }
def fnExactGroupInRow : OpenClaim := { program := "ytbbkpaledlbcmaa", sum := "49bcaa6d096b020bb54aac3bf79d55643b8fe7fea3e8edef8e91a7776accc3d8", func := "loop.example/foxcalculus/laws.FnExactGroupIn", spec := "fnExactGroupIn", unfollowed := true, recurses := true, leaving := true, apart := false }
def FnExactGroupInSaid : Prop := fnExactGroupInRow.holds Try.pinned (OpenSpec.ofChange fnExactGroupInSpec)

/-- ITS FALSE NEIGHBOUR: 'it returns false'. Refute it at one input. -/
def fnExactGroupInWrong : ChangeSpec := { name := "fnExactGroupIn", fn := fun _ => fun
  | [d] => { results := [.lit (.bool false)], args := [d] }
  | _ => none }
def FnExactGroupInWrongFalsely : Prop := fnExactGroupInRow.holds Try.pinned (OpenSpec.ofChange fnExactGroupInWrong)

/-- 'laws.FnExactGroupEven': WHATEVER THE INPUT: true; the input reads as it did. -/
def fnExactGroupEvenSpec : ChangeSpec := { name := "fnExactGroupEven", fn := fun _ => fun
  | [d] => { results := [.lit (.bool true)], args := [d] }
  | _ => none }
def fnExactGroupEvenRow : OpenClaim := { program := "ytbbkpaledlbcmaa", sum := "49bcaa6d096b020bb54aac3bf79d55643b8fe7fea3e8edef8e91a7776accc3d8", func := "loop.example/foxcalculus/laws.FnExactGroupEven", spec := "fnExactGroupEven", unfollowed := true, recurses := true, leaving := true, apart := false }
def FnExactGroupEvenSaid : Prop := fnExactGroupEvenRow.holds Try.pinned (OpenSpec.ofChange fnExactGroupEvenSpec)

/-- ITS FALSE NEIGHBOUR: 'it returns false'. Refute it at one input. -/
def fnExactGroupEvenWrong : ChangeSpec := { name := "fnExactGroupEven", fn := fun _ => fun
  | [d] => { results := [.lit (.bool false)], args := [d] }
  | _ => none }
def FnExactGroupEvenWrongFalsely : Prop := fnExactGroupEvenRow.holds Try.pinned (OpenSpec.ofChange fnExactGroupEvenWrong)

/-- 'laws.FnExactGroupSums': WHATEVER THE INPUT: true; the input reads as it did. -/
def fnExactGroupSumsSpec : ChangeSpec := { name := "fnExactGroupSums", fn := fun _ => fun
  | [d] => { results := [.lit (.bool true)], args := [d] }
  | _ => none }
def fnExactGroupSumsRow : OpenClaim := { program := "ytbbkpaledlbcmaa", sum := "49bcaa6d096b020bb54aac3bf79d55643b8fe7fea3e8edef8e91a7776accc3d8", func := "loop.example/foxcalculus/laws.FnExactGroupSums", spec := "fnExactGroupSums", unfollowed := true, recurses := true, leaving := true, apart := false }
def FnExactGroupSumsSaid : Prop := fnExactGroupSumsRow.holds Try.pinned (OpenSpec.ofChange fnExactGroupSumsSpec)

/-- ITS FALSE NEIGHBOUR: 'it returns false'. Refute it at one input. -/
def fnExactGroupSumsWrong : ChangeSpec := { name := "fnExactGroupSums", fn := fun _ => fun
  | [d] => { results := [.lit (.bool false)], args := [d] }
  | _ => none }
def FnExactGroupSumsWrongFalsely : Prop := fnExactGroupSumsRow.holds Try.pinned (OpenSpec.ofChange fnExactGroupSumsWrong)

/-- 'laws.FnExactGroupAbel': WHATEVER THE INPUT: true; the input reads as it did. -/
def fnExactGroupAbelSpec : ChangeSpec := { name := "fnExactGroupAbel", fn := fun _ => fun
  | [d] => { results := [.lit (.bool true)], args := [d] }
  | _ => none }
def fnExactGroupAbelRow : OpenClaim := { program := "ytbbkpaledlbcmaa", sum := "49bcaa6d096b020bb54aac3bf79d55643b8fe7fea3e8edef8e91a7776accc3d8", func := "loop.example/foxcalculus/laws.FnExactGroupAbel", spec := "fnExactGroupAbel", inPlace := ["(*sync.WaitGroup).Add", "internal/race.ReleaseMerge", "internal/race.Disable", "internal/race.Enable", "internal/synctest.IsInBubble", "internal/synctest.Associate[sync.WaitGroup]", "sync.fatal", "sync/atomic.OrUint64", "sync/atomic.AddUint64", "internal/race.Read", "sync/atomic.LoadUint64", "sync/atomic.StoreUint64", "internal/synctest.Disassociate[sync.WaitGroup]", "sync.runtime_Semrelease", "(*sync.WaitGroup).Done", "(*sync.WaitGroup).Wait", "internal/race.Acquire", "internal/synctest.IsAssociated[sync.WaitGroup]", "sync/atomic.CompareAndSwapUint64", "internal/race.Write", "sync.runtime_SemacquireWaitGroup"], unfollowed := true, recurses := true, leaving := true, apart := false }
def FnExactGroupAbelSaid : Prop := fnExactGroupAbelRow.holds Try.pinned (OpenSpec.ofChange fnExactGroupAbelSpec)

/-- ITS FALSE NEIGHBOUR: 'it returns false'. Refute it at one input. -/
def fnExactGroupAbelWrong : ChangeSpec := { name := "fnExactGroupAbel", fn := fun _ => fun
  | [d] => { results := [.lit (.bool false)], args := [d] }
  | _ => none }
def FnExactGroupAbelWrongFalsely : Prop := fnExactGroupAbelRow.holds Try.pinned (OpenSpec.ofChange fnExactGroupAbelWrong)

/-- 'laws.FnExactGroupMove': WHATEVER THE INPUT: true; the input reads as it did. -/
def fnExactGroupMoveSpec : ChangeSpec := { name := "fnExactGroupMove", fn := fun _ => fun
  | [d1, d2, d3] => { results := [.lit (.bool true)], args := [d1, d2, d3] }
  | _ => none }
def fnExactGroupMoveRow : OpenClaim := { program := "ytbbkpaledlbcmaa", sum := "49bcaa6d096b020bb54aac3bf79d55643b8fe7fea3e8edef8e91a7776accc3d8", func := "loop.example/foxcalculus/laws.FnExactGroupMove", spec := "fnExactGroupMove", unfollowed := true, recurses := true, leaving := true, apart := false }
def FnExactGroupMoveSaid : Prop := fnExactGroupMoveRow.holds Try.pinned (OpenSpec.ofChange fnExactGroupMoveSpec)

/-- ITS FALSE NEIGHBOUR: 'it returns false'. Refute it at one input. -/
def fnExactGroupMoveWrong : ChangeSpec := { name := "fnExactGroupMove", fn := fun _ => fun
  | [d1, d2, d3] => { results := [.lit (.bool false)], args := [d1, d2, d3] }
  | _ => none }
def FnExactGroupMoveWrongFalsely : Prop := fnExactGroupMoveRow.holds Try.pinned (OpenSpec.ofChange fnExactGroupMoveWrong)

/-- 'laws.FnExactGroupJoin': WHATEVER THE INPUT: true; the input reads as it did. -/
def fnExactGroupJoinSpec : ChangeSpec := { name := "fnExactGroupJoin", fn := fun _ => fun
  | [d1, d2, d3] => { results := [.lit (.bool true)], args := [d1, d2, d3] }
  | _ => none }
def fnExactGroupJoinRow : OpenClaim := { program := "ytbbkpaledlbcmaa", sum := "49bcaa6d096b020bb54aac3bf79d55643b8fe7fea3e8edef8e91a7776accc3d8", func := "loop.example/foxcalculus/laws.FnExactGroupJoin", spec := "fnExactGroupJoin", unfollowed := true, recurses := true, leaving := true, apart := false }
def FnExactGroupJoinSaid : Prop := fnExactGroupJoinRow.holds Try.pinned (OpenSpec.ofChange fnExactGroupJoinSpec)

/-- ITS FALSE NEIGHBOUR: 'it returns false'. Refute it at one input. -/
def fnExactGroupJoinWrong : ChangeSpec := { name := "fnExactGroupJoin", fn := fun _ => fun
  | [d1, d2, d3] => { results := [.lit (.bool false)], args := [d1, d2, d3] }
  | _ => none }
def FnExactGroupJoinWrongFalsely : Prop := fnExactGroupJoinRow.holds Try.pinned (OpenSpec.ofChange fnExactGroupJoinWrong)

/-- 'laws.FnExactGroupGrow': WHATEVER THE INPUT: true; the input reads as it did. -/
def fnExactGroupGrowSpec : ChangeSpec := { name := "fnExactGroupGrow", fn := fun _ => fun
  | [d1, d2] => { results := [.lit (.bool true)], args := [d1, d2] }
  | _ => none }
def fnExactGroupGrowRow : OpenClaim := { program := "ytbbkpaledlbcmaa", sum := "49bcaa6d096b020bb54aac3bf79d55643b8fe7fea3e8edef8e91a7776accc3d8", func := "loop.example/foxcalculus/laws.FnExactGroupGrow", spec := "fnExactGroupGrow", unfollowed := true, recurses := true, leaving := true, apart := false }
def FnExactGroupGrowSaid : Prop := fnExactGroupGrowRow.holds Try.pinned (OpenSpec.ofChange fnExactGroupGrowSpec)

/-- ITS FALSE NEIGHBOUR: 'it returns false'. Refute it at one input. -/
def fnExactGroupGrowWrong : ChangeSpec := { name := "fnExactGroupGrow", fn := fun _ => fun
  | [d1, d2] => { results := [.lit (.bool false)], args := [d1, d2] }
  | _ => none }
def FnExactGroupGrowWrongFalsely : Prop := fnExactGroupGrowRow.holds Try.pinned (OpenSpec.ofChange fnExactGroupGrowWrong)

/- THE SECOND FORM. 'bulk': how many values and letters a reading holds, each counted each time it is reached (what is shared counts as often as it is met; a slice's spare places count too). A statement '..UptoSaid' is the law's where the arguments, and the package variables that the reading takes, are together of bulk at most 1048576: NARROWER than '..Said'. Prove '..Said' where nothing that the law and all that it calls make is longer than what came in: it says more and counts as full. Else prove '..UptoSaid'. A law counts once. -/
mutual
def uptoBulk {H : Type} : DataW H → Nat
  | .lit (.string bytes) => bytes.length + 1
  | .lit _ => 1
  | .nil => 1
  | .ptr d => uptoBulk d + 1
  | .slice elems spare => uptoBulkAll elems + uptoBulkAll spare + 1
  | .agg parts => uptoBulkAll parts + 1
  | .iface _ d => uptoBulk d + 1
  | .map entries => uptoBulkEntries entries + 1
  | .held _ => 1
def uptoBulkAll {H : Type} : List (DataW H) → Nat
  | [] => 0
  | d :: r => uptoBulk d + uptoBulkAll r
def uptoBulkEntries {H : Type} : List (Lit × DataW H) → Nat
  | [] => 0
  | x :: r => uptoBulkEntry x + uptoBulkEntries r
def uptoBulkEntry {H : Type} : Lit × DataW H → Nat
  | (.string bytes, d) => bytes.length + uptoBulk d + 1
  | (_, d) => uptoBulk d + 1
 end
def uptoSmall : (H : Type) → List (DataW H) → Bool := fun _ ds => decide (uptoBulkAll ds ≤ 1048576)
def OpenSpec.upto (s : _root_.Go.ChangeSpec) : _root_.Go.OpenSpec := { _root_.Go.OpenSpec.ofChange s with cond := some uptoSmall }

/-- 'laws.FnMatrix', WHERE WHAT IT READS IS OF BULK AT MOST 1048576: true; the input reads as it did. -/
def fnMatrixUptoRow : OpenClaim := { program := "ytbbkpaledlbcmaa", sum := "49bcaa6d096b020bb54aac3bf79d55643b8fe7fea3e8edef8e91a7776accc3d8", func := "loop.example/foxcalculus/laws.FnMatrix", spec := "fnMatrix", unfollowed := true, recurses := true, leaving := true, apart := false, narrowed := true }
def FnMatrixUptoSaid : Prop := fnMatrixUptoRow.holds Try.pinned (OpenSpec.upto fnMatrixSpec)

/-- 'laws.FnMatrixOne', WHERE WHAT IT READS IS OF BULK AT MOST 1048576: true; the input reads as it did. -/
def fnMatrixOneUptoRow : OpenClaim := { program := "ytbbkpaledlbcmaa", sum := "49bcaa6d096b020bb54aac3bf79d55643b8fe7fea3e8edef8e91a7776accc3d8", func := "loop.example/foxcalculus/laws.FnMatrixOne", spec := "fnMatrixOne", unfollowed := true, recurses := true, leaving := true, apart := false, narrowed := true }
def FnMatrixOneUptoSaid : Prop := fnMatrixOneUptoRow.holds Try.pinned (OpenSpec.upto fnMatrixOneSpec)

/-- 'laws.FnMatrixTimes', WHERE WHAT IT READS IS OF BULK AT MOST 1048576: true; the input reads as it did. -/
def fnMatrixTimesUptoRow : OpenClaim := { program := "ytbbkpaledlbcmaa", sum := "49bcaa6d096b020bb54aac3bf79d55643b8fe7fea3e8edef8e91a7776accc3d8", func := "loop.example/foxcalculus/laws.FnMatrixTimes", spec := "fnMatrixTimes", unfollowed := true, recurses := true, leaving := true, apart := false, narrowed := true }
def FnMatrixTimesUptoSaid : Prop := fnMatrixTimesUptoRow.holds Try.pinned (OpenSpec.upto fnMatrixTimesSpec)

/-- 'laws.FnMatrixDet', WHERE WHAT IT READS IS OF BULK AT MOST 1048576: true; the input reads as it did. -/
def fnMatrixDetUptoRow : OpenClaim := { program := "ytbbkpaledlbcmaa", sum := "49bcaa6d096b020bb54aac3bf79d55643b8fe7fea3e8edef8e91a7776accc3d8", func := "loop.example/foxcalculus/laws.FnMatrixDet", spec := "fnMatrixDet", unfollowed := true, recurses := true, leaving := true, apart := false, narrowed := true }
def FnMatrixDetUptoSaid : Prop := fnMatrixDetUptoRow.holds Try.pinned (OpenSpec.upto fnMatrixDetSpec)

/-- 'laws.FnMatrixLess', WHERE WHAT IT READS IS OF BULK AT MOST 1048576: true; the input reads as it did. -/
def fnMatrixLessUptoRow : OpenClaim := { program := "ytbbkpaledlbcmaa", sum := "49bcaa6d096b020bb54aac3bf79d55643b8fe7fea3e8edef8e91a7776accc3d8", func := "loop.example/foxcalculus/laws.FnMatrixLess", spec := "fnMatrixLess", unfollowed := true, recurses := true, leaving := true, apart := false, narrowed := true }
def FnMatrixLessUptoSaid : Prop := fnMatrixLessUptoRow.holds Try.pinned (OpenSpec.upto fnMatrixLessSpec)

/-- 'laws.FnFlip', WHERE WHAT IT READS IS OF BULK AT MOST 1048576: true; the input reads as it did. -/
def fnFlipUptoRow : OpenClaim := { program := "ytbbkpaledlbcmaa", sum := "49bcaa6d096b020bb54aac3bf79d55643b8fe7fea3e8edef8e91a7776accc3d8", func := "loop.example/foxcalculus/laws.FnFlip", spec := "fnFlip", unfollowed := true, recurses := true, leaving := true, apart := false, narrowed := true }
def FnFlipUptoSaid : Prop := fnFlipUptoRow.holds Try.pinned (OpenSpec.upto fnFlipSpec)

/-- 'laws.FnCut', WHERE WHAT IT READS IS OF BULK AT MOST 1048576: true; the input reads as it did. -/
def fnCutUptoRow : OpenClaim := { program := "ytbbkpaledlbcmaa", sum := "49bcaa6d096b020bb54aac3bf79d55643b8fe7fea3e8edef8e91a7776accc3d8", func := "loop.example/foxcalculus/laws.FnCut", spec := "fnCut", unfollowed := true, recurses := true, leaving := true, apart := false, narrowed := true }
def FnCutUptoSaid : Prop := fnCutUptoRow.holds Try.pinned (OpenSpec.upto fnCutSpec)

/-- 'laws.FnDet', WHERE WHAT IT READS IS OF BULK AT MOST 1048576: true; the input reads as it did. -/
def fnDetUptoRow : OpenClaim := { program := "ytbbkpaledlbcmaa", sum := "49bcaa6d096b020bb54aac3bf79d55643b8fe7fea3e8edef8e91a7776accc3d8", func := "loop.example/foxcalculus/laws.FnDet", spec := "fnDet", unfollowed := true, recurses := true, leaving := true, apart := false, narrowed := true }
def FnDetUptoSaid : Prop := fnDetUptoRow.holds Try.pinned (OpenSpec.upto fnDetSpec)

/-- 'laws.FnTrace', WHERE WHAT IT READS IS OF BULK AT MOST 1048576: true; the input reads as it did. -/
def fnTraceUptoRow : OpenClaim := { program := "ytbbkpaledlbcmaa", sum := "49bcaa6d096b020bb54aac3bf79d55643b8fe7fea3e8edef8e91a7776accc3d8", func := "loop.example/foxcalculus/laws.FnTrace", spec := "fnTrace", unfollowed := true, recurses := true, leaving := true, apart := false, narrowed := true }
def FnTraceUptoSaid : Prop := fnTraceUptoRow.holds Try.pinned (OpenSpec.upto fnTraceSpec)

/-- 'laws.FnExactWordSums', WHERE WHAT IT READS IS OF BULK AT MOST 1048576: true; the input reads as it did. -/
def fnExactWordSumsUptoRow : OpenClaim := { program := "ytbbkpaledlbcmaa", sum := "49bcaa6d096b020bb54aac3bf79d55643b8fe7fea3e8edef8e91a7776accc3d8", func := "loop.example/foxcalculus/laws.FnExactWordSums", spec := "fnExactWordSums", unfollowed := true, recurses := true, leaving := true, apart := false, narrowed := true }
def FnExactWordSumsUptoSaid : Prop := fnExactWordSumsUptoRow.holds Try.pinned (OpenSpec.upto fnExactWordSumsSpec)

/-- 'laws.FnExactMatrixTimes', WHERE WHAT IT READS IS OF BULK AT MOST 1048576: true; the input reads as it did. -/
def fnExactMatrixTimesUptoRow : OpenClaim := { program := "ytbbkpaledlbcmaa", sum := "49bcaa6d096b020bb54aac3bf79d55643b8fe7fea3e8edef8e91a7776accc3d8", func := "loop.example/foxcalculus/laws.FnExactMatrixTimes", spec := "fnExactMatrixTimes", unfollowed := true, recurses := true, leaving := true, apart := false, narrowed := true }
def FnExactMatrixTimesUptoSaid : Prop := fnExactMatrixTimesUptoRow.holds Try.pinned (OpenSpec.upto fnExactMatrixTimesSpec)

/-- 'laws.FnExactMatrixLess', WHERE WHAT IT READS IS OF BULK AT MOST 1048576: true; the input reads as it did. -/
def fnExactMatrixLessUptoRow : OpenClaim := { program := "ytbbkpaledlbcmaa", sum := "49bcaa6d096b020bb54aac3bf79d55643b8fe7fea3e8edef8e91a7776accc3d8", func := "loop.example/foxcalculus/laws.FnExactMatrixLess", spec := "fnExactMatrixLess", unfollowed := true, recurses := true, leaving := true, apart := false, narrowed := true }
def FnExactMatrixLessUptoSaid : Prop := fnExactMatrixLessUptoRow.holds Try.pinned (OpenSpec.upto fnExactMatrixLessSpec)

/-- 'laws.FnExactMatrixCut', WHERE WHAT IT READS IS OF BULK AT MOST 1048576: true; the input reads as it did. -/
def fnExactMatrixCutUptoRow : OpenClaim := { program := "ytbbkpaledlbcmaa", sum := "49bcaa6d096b020bb54aac3bf79d55643b8fe7fea3e8edef8e91a7776accc3d8", func := "loop.example/foxcalculus/laws.FnExactMatrixCut", spec := "fnExactMatrixCut", unfollowed := true, recurses := true, leaving := true, apart := false, narrowed := true }
def FnExactMatrixCutUptoSaid : Prop := fnExactMatrixCutUptoRow.holds Try.pinned (OpenSpec.upto fnExactMatrixCutSpec)

/-- 'laws.FnExactMatrixDet', WHERE WHAT IT READS IS OF BULK AT MOST 1048576: true; the input reads as it did. -/
def fnExactMatrixDetUptoRow : OpenClaim := { program := "ytbbkpaledlbcmaa", sum := "49bcaa6d096b020bb54aac3bf79d55643b8fe7fea3e8edef8e91a7776accc3d8", func := "loop.example/foxcalculus/laws.FnExactMatrixDet", spec := "fnExactMatrixDet", unfollowed := true, recurses := true, leaving := true, apart := false, narrowed := true }
def FnExactMatrixDetUptoSaid : Prop := fnExactMatrixDetUptoRow.holds Try.pinned (OpenSpec.upto fnExactMatrixDetSpec)

/-- 'laws.FnExactGroupIn', WHERE WHAT IT READS IS OF BULK AT MOST 1048576: true; the input reads as it did. -/
def fnExactGroupInUptoRow : OpenClaim := { program := "ytbbkpaledlbcmaa", sum := "49bcaa6d096b020bb54aac3bf79d55643b8fe7fea3e8edef8e91a7776accc3d8", func := "loop.example/foxcalculus/laws.FnExactGroupIn", spec := "fnExactGroupIn", unfollowed := true, recurses := true, leaving := true, apart := false, narrowed := true }
def FnExactGroupInUptoSaid : Prop := fnExactGroupInUptoRow.holds Try.pinned (OpenSpec.upto fnExactGroupInSpec)

/-- 'laws.FnExactGroupEven', WHERE WHAT IT READS IS OF BULK AT MOST 1048576: true; the input reads as it did. -/
def fnExactGroupEvenUptoRow : OpenClaim := { program := "ytbbkpaledlbcmaa", sum := "49bcaa6d096b020bb54aac3bf79d55643b8fe7fea3e8edef8e91a7776accc3d8", func := "loop.example/foxcalculus/laws.FnExactGroupEven", spec := "fnExactGroupEven", unfollowed := true, recurses := true, leaving := true, apart := false, narrowed := true }
def FnExactGroupEvenUptoSaid : Prop := fnExactGroupEvenUptoRow.holds Try.pinned (OpenSpec.upto fnExactGroupEvenSpec)

/-- 'laws.FnExactGroupSums', WHERE WHAT IT READS IS OF BULK AT MOST 1048576: true; the input reads as it did. -/
def fnExactGroupSumsUptoRow : OpenClaim := { program := "ytbbkpaledlbcmaa", sum := "49bcaa6d096b020bb54aac3bf79d55643b8fe7fea3e8edef8e91a7776accc3d8", func := "loop.example/foxcalculus/laws.FnExactGroupSums", spec := "fnExactGroupSums", unfollowed := true, recurses := true, leaving := true, apart := false, narrowed := true }
def FnExactGroupSumsUptoSaid : Prop := fnExactGroupSumsUptoRow.holds Try.pinned (OpenSpec.upto fnExactGroupSumsSpec)

/-- 'laws.FnExactGroupAbel', WHERE WHAT IT READS IS OF BULK AT MOST 1048576: true; the input reads as it did. -/
def fnExactGroupAbelUptoRow : OpenClaim := { program := "ytbbkpaledlbcmaa", sum := "49bcaa6d096b020bb54aac3bf79d55643b8fe7fea3e8edef8e91a7776accc3d8", func := "loop.example/foxcalculus/laws.FnExactGroupAbel", spec := "fnExactGroupAbel", inPlace := ["(*sync.WaitGroup).Add", "internal/race.ReleaseMerge", "internal/race.Disable", "internal/race.Enable", "internal/synctest.IsInBubble", "internal/synctest.Associate[sync.WaitGroup]", "sync.fatal", "sync/atomic.OrUint64", "sync/atomic.AddUint64", "internal/race.Read", "sync/atomic.LoadUint64", "sync/atomic.StoreUint64", "internal/synctest.Disassociate[sync.WaitGroup]", "sync.runtime_Semrelease", "(*sync.WaitGroup).Done", "(*sync.WaitGroup).Wait", "internal/race.Acquire", "internal/synctest.IsAssociated[sync.WaitGroup]", "sync/atomic.CompareAndSwapUint64", "internal/race.Write", "sync.runtime_SemacquireWaitGroup"], unfollowed := true, recurses := true, leaving := true, apart := false, narrowed := true }
def FnExactGroupAbelUptoSaid : Prop := fnExactGroupAbelUptoRow.holds Try.pinned (OpenSpec.upto fnExactGroupAbelSpec)

/-- 'laws.FnExactGroupMove', WHERE WHAT IT READS IS OF BULK AT MOST 1048576: true; the input reads as it did. -/
def fnExactGroupMoveUptoRow : OpenClaim := { program := "ytbbkpaledlbcmaa", sum := "49bcaa6d096b020bb54aac3bf79d55643b8fe7fea3e8edef8e91a7776accc3d8", func := "loop.example/foxcalculus/laws.FnExactGroupMove", spec := "fnExactGroupMove", unfollowed := true, recurses := true, leaving := true, apart := false, narrowed := true }
def FnExactGroupMoveUptoSaid : Prop := fnExactGroupMoveUptoRow.holds Try.pinned (OpenSpec.upto fnExactGroupMoveSpec)

/-- 'laws.FnExactGroupJoin', WHERE WHAT IT READS IS OF BULK AT MOST 1048576: true; the input reads as it did. -/
def fnExactGroupJoinUptoRow : OpenClaim := { program := "ytbbkpaledlbcmaa", sum := "49bcaa6d096b020bb54aac3bf79d55643b8fe7fea3e8edef8e91a7776accc3d8", func := "loop.example/foxcalculus/laws.FnExactGroupJoin", spec := "fnExactGroupJoin", unfollowed := true, recurses := true, leaving := true, apart := false, narrowed := true }
def FnExactGroupJoinUptoSaid : Prop := fnExactGroupJoinUptoRow.holds Try.pinned (OpenSpec.upto fnExactGroupJoinSpec)

/-- 'laws.FnExactGroupGrow', WHERE WHAT IT READS IS OF BULK AT MOST 1048576: true; the input reads as it did. -/
def fnExactGroupGrowUptoRow : OpenClaim := { program := "ytbbkpaledlbcmaa", sum := "49bcaa6d096b020bb54aac3bf79d55643b8fe7fea3e8edef8e91a7776accc3d8", func := "loop.example/foxcalculus/laws.FnExactGroupGrow", spec := "fnExactGroupGrow", unfollowed := true, recurses := true, leaving := true, apart := false, narrowed := true }
def FnExactGroupGrowUptoSaid : Prop := fnExactGroupGrowUptoRow.holds Try.pinned (OpenSpec.upto fnExactGroupGrowSpec)

end Rows
end Go.Proofs.Ytbbkpaledlbcmaa

/-
  No cell of these rows narrows 'for every input' (looked for: loops, veiled, ifaces, maps, wideKeys, modest, calm, conditions, laid).
  DERIVED. THE GIVEN ROWS OF THIS SEAT. 9 by the template 'for every input the law returns true; each argument reads behind the call as it read before'; 0 by the template 'total and deterministic' (their statements: YtmbffbjopehllabTotals.lean).
  GIVEN WITH THE SEED: the statements are not yours to turn. If you find one false, say at which input.
  Laid BY PROGRAM, IN A SANDBOX (cutbox-rows.mjs): the forced cells as the released guide's own fill.sh prints them over the translation 0278facaba2c4886… (all of the seat's roots in one cut). By AI agents, Wed Nov 11 2026. No macro, syntax, notation, axiom, sorry.
-/
import Derived.Test.YtmbffbjopehllabChecked
import GoSem.Claim
import GoSem.ClaimJoined
import GoSem.ClaimMapViews
import Derived.JoinedTies
import Derived.KernelRfl
namespace Go.Proofs.Ytmbffbjopehllab
/- THE CELL 'sum', in the pinned program and in every row, IS THE sha256 OF THE DUMP (.gsa) THAT YtmbffbjopehllabProg.lean LOADS. Nothing in Lean hashes anything: it is a label: what it is worth is what the hold of that sum in a sandbox is worth. -/
noncomputable def Try.pinned : Pinned := { name := "ytmbffbjopehllab", sum := "0278facaba2c488613b9a0eb24a682bc87a42a2c35a67850c48573b58ef0570b", checked := Try.checked }
namespace Rows
def none {H : Type} : Left H := { results := [], args := [] }

/-- 'laws.FnExactWordIn': WHATEVER THE INPUT: true; the input reads as it did. -/
def fnExactWordInSpec : ChangeSpec := { name := "fnExactWordIn", fn := fun _ => fun
  | [d] => { results := [.lit (.bool true)], args := [d] }
  | _ => none }
def fnExactWordInRow : OpenClaim := { program := "ytmbffbjopehllab", sum := "0278facaba2c488613b9a0eb24a682bc87a42a2c35a67850c48573b58ef0570b", func := "loop.example/foxcalculus/laws.FnExactWordIn", spec := "fnExactWordIn", unfollowed := true, recurses := true, apart := false }
def FnExactWordInSaid : Prop := fnExactWordInRow.holds Try.pinned (OpenSpec.ofChange fnExactWordInSpec)

/-- ITS FALSE NEIGHBOUR: 'it returns false'. Refute it at one input. -/
def fnExactWordInWrong : ChangeSpec := { name := "fnExactWordIn", fn := fun _ => fun
  | [d] => { results := [.lit (.bool false)], args := [d] }
  | _ => none }
def FnExactWordInWrongFalsely : Prop := fnExactWordInRow.holds Try.pinned (OpenSpec.ofChange fnExactWordInWrong)

/-- 'laws.FnExactWordReduce': WHATEVER THE INPUT: true; the input reads as it did. -/
def fnExactWordReduceSpec : ChangeSpec := { name := "fnExactWordReduce", fn := fun _ => fun
  | [d] => { results := [.lit (.bool true)], args := [d] }
  | _ => none }
def fnExactWordReduceRow : OpenClaim := { program := "ytmbffbjopehllab", sum := "0278facaba2c488613b9a0eb24a682bc87a42a2c35a67850c48573b58ef0570b", func := "loop.example/foxcalculus/laws.FnExactWordReduce", spec := "fnExactWordReduce", unfollowed := true, recurses := true, apart := false }
def FnExactWordReduceSaid : Prop := fnExactWordReduceRow.holds Try.pinned (OpenSpec.ofChange fnExactWordReduceSpec)

/-- ITS FALSE NEIGHBOUR: 'it returns false'. Refute it at one input. -/
def fnExactWordReduceWrong : ChangeSpec := { name := "fnExactWordReduce", fn := fun _ => fun
  | [d] => { results := [.lit (.bool false)], args := [d] }
  | _ => none }
def FnExactWordReduceWrongFalsely : Prop := fnExactWordReduceRow.holds Try.pinned (OpenSpec.ofChange fnExactWordReduceWrong)

/-- 'laws.FnExactWordTimes': WHATEVER THE INPUT: true; the input reads as it did. -/
def fnExactWordTimesSpec : ChangeSpec := { name := "fnExactWordTimes", fn := fun _ => fun
  | [d1, d2] => { results := [.lit (.bool true)], args := [d1, d2] }
  | _ => none }
def fnExactWordTimesRow : OpenClaim := { program := "ytmbffbjopehllab", sum := "0278facaba2c488613b9a0eb24a682bc87a42a2c35a67850c48573b58ef0570b", func := "loop.example/foxcalculus/laws.FnExactWordTimes", spec := "fnExactWordTimes", unfollowed := true, recurses := true, apart := false }
def FnExactWordTimesSaid : Prop := fnExactWordTimesRow.holds Try.pinned (OpenSpec.ofChange fnExactWordTimesSpec)

/-- ITS FALSE NEIGHBOUR: 'it returns false'. Refute it at one input. -/
def fnExactWordTimesWrong : ChangeSpec := { name := "fnExactWordTimes", fn := fun _ => fun
  | [d1, d2] => { results := [.lit (.bool false)], args := [d1, d2] }
  | _ => none }
def FnExactWordTimesWrongFalsely : Prop := fnExactWordTimesRow.holds Try.pinned (OpenSpec.ofChange fnExactWordTimesWrong)

/-- 'laws.FnExactWordTurned': WHATEVER THE INPUT: true; the input reads as it did. -/
def fnExactWordTurnedSpec : ChangeSpec := { name := "fnExactWordTurned", fn := fun _ => fun
  | [d] => { results := [.lit (.bool true)], args := [d] }
  | _ => none }
def fnExactWordTurnedRow : OpenClaim := { program := "ytmbffbjopehllab", sum := "0278facaba2c488613b9a0eb24a682bc87a42a2c35a67850c48573b58ef0570b", func := "loop.example/foxcalculus/laws.FnExactWordTurned", spec := "fnExactWordTurned", unfollowed := true, recurses := true, apart := false }
def FnExactWordTurnedSaid : Prop := fnExactWordTurnedRow.holds Try.pinned (OpenSpec.ofChange fnExactWordTurnedSpec)

/-- ITS FALSE NEIGHBOUR: 'it returns false'. Refute it at one input. -/
def fnExactWordTurnedWrong : ChangeSpec := { name := "fnExactWordTurned", fn := fun _ => fun
  | [d] => { results := [.lit (.bool false)], args := [d] }
  | _ => none }
def FnExactWordTurnedWrongFalsely : Prop := fnExactWordTurnedRow.holds Try.pinned (OpenSpec.ofChange fnExactWordTurnedWrong)

/-- 'laws.FnExactWordPower': WHATEVER THE INPUT: true; the input reads as it did. -/
def fnExactWordPowerSpec : ChangeSpec := { name := "fnExactWordPower", fn := fun _ => fun
  | [d1, d2] => { results := [.lit (.bool true)], args := [d1, d2] }
  | _ => none }
def fnExactWordPowerRow : OpenClaim := { program := "ytmbffbjopehllab", sum := "0278facaba2c488613b9a0eb24a682bc87a42a2c35a67850c48573b58ef0570b", func := "loop.example/foxcalculus/laws.FnExactWordPower", spec := "fnExactWordPower", unfollowed := true, recurses := true, apart := false }
def FnExactWordPowerSaid : Prop := fnExactWordPowerRow.holds Try.pinned (OpenSpec.ofChange fnExactWordPowerSpec)

/-- ITS FALSE NEIGHBOUR: 'it returns false'. Refute it at one input. -/
def fnExactWordPowerWrong : ChangeSpec := { name := "fnExactWordPower", fn := fun _ => fun
  | [d1, d2] => { results := [.lit (.bool false)], args := [d1, d2] }
  | _ => none }
def FnExactWordPowerWrongFalsely : Prop := fnExactWordPowerRow.holds Try.pinned (OpenSpec.ofChange fnExactWordPowerWrong)

/-- 'laws.FnExactWordComm': WHATEVER THE INPUT: true; the input reads as it did. -/
def fnExactWordCommSpec : ChangeSpec := { name := "fnExactWordComm", fn := fun _ => fun
  | [d1, d2] => { results := [.lit (.bool true)], args := [d1, d2] }
  | _ => none }
def fnExactWordCommRow : OpenClaim := { program := "ytmbffbjopehllab", sum := "0278facaba2c488613b9a0eb24a682bc87a42a2c35a67850c48573b58ef0570b", func := "loop.example/foxcalculus/laws.FnExactWordComm", spec := "fnExactWordComm", unfollowed := true, recurses := true, apart := false }
def FnExactWordCommSaid : Prop := fnExactWordCommRow.holds Try.pinned (OpenSpec.ofChange fnExactWordCommSpec)

/-- ITS FALSE NEIGHBOUR: 'it returns false'. Refute it at one input. -/
def fnExactWordCommWrong : ChangeSpec := { name := "fnExactWordComm", fn := fun _ => fun
  | [d1, d2] => { results := [.lit (.bool false)], args := [d1, d2] }
  | _ => none }
def FnExactWordCommWrongFalsely : Prop := fnExactWordCommRow.holds Try.pinned (OpenSpec.ofChange fnExactWordCommWrong)

/-- 'laws.FnExactWordSums': WHATEVER THE INPUT: true; the input reads as it did. -/
def fnExactWordSumsSpec : ChangeSpec := { name := "fnExactWordSums", fn := fun _ => fun
  | [d] => { results := [.lit (.bool true)], args := [d] }
  | _ => none }
def fnExactWordSumsRow : OpenClaim := { program := "ytmbffbjopehllab", sum := "0278facaba2c488613b9a0eb24a682bc87a42a2c35a67850c48573b58ef0570b", func := "loop.example/foxcalculus/laws.FnExactWordSums", spec := "fnExactWordSums", unfollowed := true, recurses := true, apart := false }
def FnExactWordSumsSaid : Prop := fnExactWordSumsRow.holds Try.pinned (OpenSpec.ofChange fnExactWordSumsSpec)

/-- ITS FALSE NEIGHBOUR: 'it returns false'. Refute it at one input. -/
def fnExactWordSumsWrong : ChangeSpec := { name := "fnExactWordSums", fn := fun _ => fun
  | [d] => { results := [.lit (.bool false)], args := [d] }
  | _ => none }
def FnExactWordSumsWrongFalsely : Prop := fnExactWordSumsRow.holds Try.pinned (OpenSpec.ofChange fnExactWordSumsWrong)

/-- 'laws.FnExactWordPut': WHATEVER THE INPUT: true; the input reads as it did. -/
def fnExactWordPutSpec : ChangeSpec := { name := "fnExactWordPut", fn := fun _ => fun
  | [d1, d2] => { results := [.lit (.bool true)], args := [d1, d2] }
  | _ => none }
def fnExactWordPutRow : OpenClaim := { program := "ytmbffbjopehllab", sum := "0278facaba2c488613b9a0eb24a682bc87a42a2c35a67850c48573b58ef0570b", func := "loop.example/foxcalculus/laws.FnExactWordPut", spec := "fnExactWordPut", unfollowed := true, recurses := true, apart := false }
def FnExactWordPutSaid : Prop := fnExactWordPutRow.holds Try.pinned (OpenSpec.ofChange fnExactWordPutSpec)

/-- ITS FALSE NEIGHBOUR: 'it returns false'. Refute it at one input. -/
def fnExactWordPutWrong : ChangeSpec := { name := "fnExactWordPut", fn := fun _ => fun
  | [d1, d2] => { results := [.lit (.bool false)], args := [d1, d2] }
  | _ => none }
def FnExactWordPutWrongFalsely : Prop := fnExactWordPutRow.holds Try.pinned (OpenSpec.ofChange fnExactWordPutWrong)

/-- 'laws.FnExactWordCore': WHATEVER THE INPUT: true; the input reads as it did. -/
def fnExactWordCoreSpec : ChangeSpec := { name := "fnExactWordCore", fn := fun _ => fun
  | [d] => { results := [.lit (.bool true)], args := [d] }
  | _ => none }
def fnExactWordCoreRow : OpenClaim := { program := "ytmbffbjopehllab", sum := "0278facaba2c488613b9a0eb24a682bc87a42a2c35a67850c48573b58ef0570b", func := "loop.example/foxcalculus/laws.FnExactWordCore", spec := "fnExactWordCore", unfollowed := true, recurses := true, apart := false }
def FnExactWordCoreSaid : Prop := fnExactWordCoreRow.holds Try.pinned (OpenSpec.ofChange fnExactWordCoreSpec)

/-- ITS FALSE NEIGHBOUR: 'it returns false'. Refute it at one input. -/
def fnExactWordCoreWrong : ChangeSpec := { name := "fnExactWordCore", fn := fun _ => fun
  | [d] => { results := [.lit (.bool false)], args := [d] }
  | _ => none }
def FnExactWordCoreWrongFalsely : Prop := fnExactWordCoreRow.holds Try.pinned (OpenSpec.ofChange fnExactWordCoreWrong)

/- THE SECOND FORM. 'bulk': how many values and letters a reading holds, each counted each time it is reached (what is shared counts as often as it is met; a slice's spare places count too). A statement '..UptoSaid' is the law's where the arguments, and the package variables that the reading takes, are together of bulk at most 1048576: NARROWER than '..Said'. Prove '..Said' where nothing that the law and all that it calls make is longer than what came in: it says more and counts as full. Else prove '..UptoSaid'. A law counts once. -/
mutual
def uptoBulk {H : Type} : DataW H → Nat
  | .lit (.string bytes) => bytes.length + 1
  | .lit _ => 1
  | .nil => 1
  | .ptr d => uptoBulk d + 1
  | .slice elems spare => uptoBulkAll elems + uptoBulkAll spare + 1
  | .agg parts => uptoBulkAll parts + 1
  | .iface _ d => uptoBulk d + 1
  | .map entries => uptoBulkEntries entries + 1
  | .held _ => 1
def uptoBulkAll {H : Type} : List (DataW H) → Nat
  | [] => 0
  | d :: r => uptoBulk d + uptoBulkAll r
def uptoBulkEntries {H : Type} : List (Lit × DataW H) → Nat
  | [] => 0
  | x :: r => uptoBulkEntry x + uptoBulkEntries r
def uptoBulkEntry {H : Type} : Lit × DataW H → Nat
  | (.string bytes, d) => bytes.length + uptoBulk d + 1
  | (_, d) => uptoBulk d + 1
 end
def uptoSmall : (H : Type) → List (DataW H) → Bool := fun _ ds => decide (uptoBulkAll ds ≤ 1048576)
def OpenSpec.upto (s : _root_.Go.ChangeSpec) : _root_.Go.OpenSpec := { _root_.Go.OpenSpec.ofChange s with cond := some uptoSmall }

/-- 'laws.FnExactWordIn', WHERE WHAT IT READS IS OF BULK AT MOST 1048576: true; the input reads as it did. -/
def fnExactWordInUptoRow : OpenClaim := { program := "ytmbffbjopehllab", sum := "0278facaba2c488613b9a0eb24a682bc87a42a2c35a67850c48573b58ef0570b", func := "loop.example/foxcalculus/laws.FnExactWordIn", spec := "fnExactWordIn", unfollowed := true, recurses := true, apart := false, narrowed := true }
def FnExactWordInUptoSaid : Prop := fnExactWordInUptoRow.holds Try.pinned (OpenSpec.upto fnExactWordInSpec)

/-- 'laws.FnExactWordReduce', WHERE WHAT IT READS IS OF BULK AT MOST 1048576: true; the input reads as it did. -/
def fnExactWordReduceUptoRow : OpenClaim := { program := "ytmbffbjopehllab", sum := "0278facaba2c488613b9a0eb24a682bc87a42a2c35a67850c48573b58ef0570b", func := "loop.example/foxcalculus/laws.FnExactWordReduce", spec := "fnExactWordReduce", unfollowed := true, recurses := true, apart := false, narrowed := true }
def FnExactWordReduceUptoSaid : Prop := fnExactWordReduceUptoRow.holds Try.pinned (OpenSpec.upto fnExactWordReduceSpec)

/-- 'laws.FnExactWordTimes', WHERE WHAT IT READS IS OF BULK AT MOST 1048576: true; the input reads as it did. -/
def fnExactWordTimesUptoRow : OpenClaim := { program := "ytmbffbjopehllab", sum := "0278facaba2c488613b9a0eb24a682bc87a42a2c35a67850c48573b58ef0570b", func := "loop.example/foxcalculus/laws.FnExactWordTimes", spec := "fnExactWordTimes", unfollowed := true, recurses := true, apart := false, narrowed := true }
def FnExactWordTimesUptoSaid : Prop := fnExactWordTimesUptoRow.holds Try.pinned (OpenSpec.upto fnExactWordTimesSpec)

/-- 'laws.FnExactWordTurned', WHERE WHAT IT READS IS OF BULK AT MOST 1048576: true; the input reads as it did. -/
def fnExactWordTurnedUptoRow : OpenClaim := { program := "ytmbffbjopehllab", sum := "0278facaba2c488613b9a0eb24a682bc87a42a2c35a67850c48573b58ef0570b", func := "loop.example/foxcalculus/laws.FnExactWordTurned", spec := "fnExactWordTurned", unfollowed := true, recurses := true, apart := false, narrowed := true }
def FnExactWordTurnedUptoSaid : Prop := fnExactWordTurnedUptoRow.holds Try.pinned (OpenSpec.upto fnExactWordTurnedSpec)

/-- 'laws.FnExactWordPower', WHERE WHAT IT READS IS OF BULK AT MOST 1048576: true; the input reads as it did. -/
def fnExactWordPowerUptoRow : OpenClaim := { program := "ytmbffbjopehllab", sum := "0278facaba2c488613b9a0eb24a682bc87a42a2c35a67850c48573b58ef0570b", func := "loop.example/foxcalculus/laws.FnExactWordPower", spec := "fnExactWordPower", unfollowed := true, recurses := true, apart := false, narrowed := true }
def FnExactWordPowerUptoSaid : Prop := fnExactWordPowerUptoRow.holds Try.pinned (OpenSpec.upto fnExactWordPowerSpec)

/-- 'laws.FnExactWordComm', WHERE WHAT IT READS IS OF BULK AT MOST 1048576: true; the input reads as it did. -/
def fnExactWordCommUptoRow : OpenClaim := { program := "ytmbffbjopehllab", sum := "0278facaba2c488613b9a0eb24a682bc87a42a2c35a67850c48573b58ef0570b", func := "loop.example/foxcalculus/laws.FnExactWordComm", spec := "fnExactWordComm", unfollowed := true, recurses := true, apart := false, narrowed := true }
def FnExactWordCommUptoSaid : Prop := fnExactWordCommUptoRow.holds Try.pinned (OpenSpec.upto fnExactWordCommSpec)

/-- 'laws.FnExactWordSums', WHERE WHAT IT READS IS OF BULK AT MOST 1048576: true; the input reads as it did. -/
def fnExactWordSumsUptoRow : OpenClaim := { program := "ytmbffbjopehllab", sum := "0278facaba2c488613b9a0eb24a682bc87a42a2c35a67850c48573b58ef0570b", func := "loop.example/foxcalculus/laws.FnExactWordSums", spec := "fnExactWordSums", unfollowed := true, recurses := true, apart := false, narrowed := true }
def FnExactWordSumsUptoSaid : Prop := fnExactWordSumsUptoRow.holds Try.pinned (OpenSpec.upto fnExactWordSumsSpec)

/-- 'laws.FnExactWordPut', WHERE WHAT IT READS IS OF BULK AT MOST 1048576: true; the input reads as it did. -/
def fnExactWordPutUptoRow : OpenClaim := { program := "ytmbffbjopehllab", sum := "0278facaba2c488613b9a0eb24a682bc87a42a2c35a67850c48573b58ef0570b", func := "loop.example/foxcalculus/laws.FnExactWordPut", spec := "fnExactWordPut", unfollowed := true, recurses := true, apart := false, narrowed := true }
def FnExactWordPutUptoSaid : Prop := fnExactWordPutUptoRow.holds Try.pinned (OpenSpec.upto fnExactWordPutSpec)

/-- 'laws.FnExactWordCore', WHERE WHAT IT READS IS OF BULK AT MOST 1048576: true; the input reads as it did. -/
def fnExactWordCoreUptoRow : OpenClaim := { program := "ytmbffbjopehllab", sum := "0278facaba2c488613b9a0eb24a682bc87a42a2c35a67850c48573b58ef0570b", func := "loop.example/foxcalculus/laws.FnExactWordCore", spec := "fnExactWordCore", unfollowed := true, recurses := true, apart := false, narrowed := true }
def FnExactWordCoreUptoSaid : Prop := fnExactWordCoreUptoRow.holds Try.pinned (OpenSpec.upto fnExactWordCoreSpec)

end Rows
end Go.Proofs.Ytmbffbjopehllab

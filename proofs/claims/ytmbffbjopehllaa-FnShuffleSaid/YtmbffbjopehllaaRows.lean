/-
  No cell of these rows narrows 'for every input' (looked for: loops, veiled, ifaces, maps, wideKeys, modest, calm, conditions, laid).
  DERIVED. THE GIVEN ROWS OF THIS SEAT. 8 by the template 'for every input the law returns true; each argument reads behind the call as it read before'; 0 by the template 'total and deterministic' (their statements: YtmbffbjopehllaaTotals.lean).
  GIVEN WITH THE SEED: the statements are not yours to turn. If you find one false, say at which input.
  Laid BY PROGRAM, IN A SANDBOX (cutbox-rows.mjs): the forced cells as the released guide's own fill.sh prints them over the translation 8e8d063e7f5c43a0… (all of the seat's roots in one cut). By AI agents, Wed Nov 11 2026. No macro, syntax, notation, axiom, sorry.
-/
import Derived.Test.YtmbffbjopehllaaChecked
import GoSem.Claim
import GoSem.ClaimJoined
import GoSem.ClaimMapViews
import Derived.JoinedTies
import Derived.KernelRfl
namespace Go.Proofs.Ytmbffbjopehllaa
/- THE CELL 'sum', in the pinned program and in every row, IS THE sha256 OF THE DUMP (.gsa) THAT YtmbffbjopehllaaProg.lean LOADS. Nothing in Lean hashes anything: it is a label: what it is worth is what the hold of that sum in a sandbox is worth. -/
noncomputable def Try.pinned : Pinned := { name := "ytmbffbjopehllaa", sum := "8e8d063e7f5c43a02a2ca4e45dfe644d450a86754058407b59d618c9c9e6f32c", checked := Try.checked }
namespace Rows
def none {H : Type} : Left H := { results := [], args := [] }

/-- 'laws.FnExactSeriesIn': WHATEVER THE INPUT: true; the input reads as it did. -/
def fnExactSeriesInSpec : ChangeSpec := { name := "fnExactSeriesIn", fn := fun _ => fun
  | [d] => { results := [.lit (.bool true)], args := [d] }
  | _ => none }
def fnExactSeriesInRow : OpenClaim := { program := "ytmbffbjopehllaa", sum := "8e8d063e7f5c43a02a2ca4e45dfe644d450a86754058407b59d618c9c9e6f32c", func := "loop.example/foxcalculus/laws.FnExactSeriesIn", spec := "fnExactSeriesIn", inPlace := ["internal/bytealg.abigen_runtime_cmpstring"], unfollowed := true, recurses := true, apart := false }
def FnExactSeriesInSaid : Prop := fnExactSeriesInRow.holds Try.pinned (OpenSpec.ofChange fnExactSeriesInSpec)

/-- ITS FALSE NEIGHBOUR: 'it returns false'. Refute it at one input. -/
def fnExactSeriesInWrong : ChangeSpec := { name := "fnExactSeriesIn", fn := fun _ => fun
  | [d] => { results := [.lit (.bool false)], args := [d] }
  | _ => none }
def FnExactSeriesInWrongFalsely : Prop := fnExactSeriesInRow.holds Try.pinned (OpenSpec.ofChange fnExactSeriesInWrong)

/-- 'laws.FnExactSeriesOf': WHATEVER THE INPUT: true; the input reads as it did. -/
def fnExactSeriesOfSpec : ChangeSpec := { name := "fnExactSeriesOf", fn := fun _ => fun
  | [d] => { results := [.lit (.bool true)], args := [d] }
  | _ => none }
def fnExactSeriesOfRow : OpenClaim := { program := "ytmbffbjopehllaa", sum := "8e8d063e7f5c43a02a2ca4e45dfe644d450a86754058407b59d618c9c9e6f32c", func := "loop.example/foxcalculus/laws.FnExactSeriesOf", spec := "fnExactSeriesOf", inPlace := ["maps.clone", "internal/bytealg.abigen_runtime_cmpstring"], unfollowed := true, recurses := true, apart := false }
def FnExactSeriesOfSaid : Prop := fnExactSeriesOfRow.holds Try.pinned (OpenSpec.ofChange fnExactSeriesOfSpec)

/-- ITS FALSE NEIGHBOUR: 'it returns false'. Refute it at one input. -/
def fnExactSeriesOfWrong : ChangeSpec := { name := "fnExactSeriesOf", fn := fun _ => fun
  | [d] => { results := [.lit (.bool false)], args := [d] }
  | _ => none }
def FnExactSeriesOfWrongFalsely : Prop := fnExactSeriesOfRow.holds Try.pinned (OpenSpec.ofChange fnExactSeriesOfWrong)

/-- 'laws.FnExactSeriesTimes': WHATEVER THE INPUT: true; the input reads as it did. -/
def fnExactSeriesTimesSpec : ChangeSpec := { name := "fnExactSeriesTimes", fn := fun _ => fun
  | [d1, d2] => { results := [.lit (.bool true)], args := [d1, d2] }
  | _ => none }
def fnExactSeriesTimesRow : OpenClaim := { program := "ytmbffbjopehllaa", sum := "8e8d063e7f5c43a02a2ca4e45dfe644d450a86754058407b59d618c9c9e6f32c", func := "loop.example/foxcalculus/laws.FnExactSeriesTimes", spec := "fnExactSeriesTimes", inPlace := ["internal/bytealg.abigen_runtime_cmpstring", "maps.clone"], unfollowed := true, recurses := true, apart := false }
def FnExactSeriesTimesSaid : Prop := fnExactSeriesTimesRow.holds Try.pinned (OpenSpec.ofChange fnExactSeriesTimesSpec)

/-- ITS FALSE NEIGHBOUR: 'it returns false'. Refute it at one input. -/
def fnExactSeriesTimesWrong : ChangeSpec := { name := "fnExactSeriesTimes", fn := fun _ => fun
  | [d1, d2] => { results := [.lit (.bool false)], args := [d1, d2] }
  | _ => none }
def FnExactSeriesTimesWrongFalsely : Prop := fnExactSeriesTimesRow.holds Try.pinned (OpenSpec.ofChange fnExactSeriesTimesWrong)

/-- 'laws.FnExactSeriesCoef': WHATEVER THE INPUT: true; the input reads as it did. -/
def fnExactSeriesCoefSpec : ChangeSpec := { name := "fnExactSeriesCoef", fn := fun _ => fun
  | [d1, d2] => { results := [.lit (.bool true)], args := [d1, d2] }
  | _ => none }
def fnExactSeriesCoefRow : OpenClaim := { program := "ytmbffbjopehllaa", sum := "8e8d063e7f5c43a02a2ca4e45dfe644d450a86754058407b59d618c9c9e6f32c", func := "loop.example/foxcalculus/laws.FnExactSeriesCoef", spec := "fnExactSeriesCoef", inPlace := ["maps.clone", "internal/bytealg.abigen_runtime_cmpstring"], unfollowed := true, recurses := true, apart := false }
def FnExactSeriesCoefSaid : Prop := fnExactSeriesCoefRow.holds Try.pinned (OpenSpec.ofChange fnExactSeriesCoefSpec)

/-- ITS FALSE NEIGHBOUR: 'it returns false'. Refute it at one input. -/
def fnExactSeriesCoefWrong : ChangeSpec := { name := "fnExactSeriesCoef", fn := fun _ => fun
  | [d1, d2] => { results := [.lit (.bool false)], args := [d1, d2] }
  | _ => none }
def FnExactSeriesCoefWrongFalsely : Prop := fnExactSeriesCoefRow.holds Try.pinned (OpenSpec.ofChange fnExactSeriesCoefWrong)

/-- 'laws.FnExactSeriesDepth': WHATEVER THE INPUT: true; the input reads as it did. -/
def fnExactSeriesDepthSpec : ChangeSpec := { name := "fnExactSeriesDepth", fn := fun _ => fun
  | [d] => { results := [.lit (.bool true)], args := [d] }
  | _ => none }
def fnExactSeriesDepthRow : OpenClaim := { program := "ytmbffbjopehllaa", sum := "8e8d063e7f5c43a02a2ca4e45dfe644d450a86754058407b59d618c9c9e6f32c", func := "loop.example/foxcalculus/laws.FnExactSeriesDepth", spec := "fnExactSeriesDepth", inPlace := ["maps.clone", "internal/bytealg.abigen_runtime_cmpstring"], unfollowed := true, recurses := true, apart := false }
def FnExactSeriesDepthSaid : Prop := fnExactSeriesDepthRow.holds Try.pinned (OpenSpec.ofChange fnExactSeriesDepthSpec)

/-- ITS FALSE NEIGHBOUR: 'it returns false'. Refute it at one input. -/
def fnExactSeriesDepthWrong : ChangeSpec := { name := "fnExactSeriesDepth", fn := fun _ => fun
  | [d] => { results := [.lit (.bool false)], args := [d] }
  | _ => none }
def FnExactSeriesDepthWrongFalsely : Prop := fnExactSeriesDepthRow.holds Try.pinned (OpenSpec.ofChange fnExactSeriesDepthWrong)

/-- 'laws.FnExactSeriesShuffle': WHATEVER THE INPUT: true; the input reads as it did. -/
def fnExactSeriesShuffleSpec : ChangeSpec := { name := "fnExactSeriesShuffle", fn := fun _ => fun
  | [d1, d2] => { results := [.lit (.bool true)], args := [d1, d2] }
  | _ => none }
def fnExactSeriesShuffleRow : OpenClaim := { program := "ytmbffbjopehllaa", sum := "8e8d063e7f5c43a02a2ca4e45dfe644d450a86754058407b59d618c9c9e6f32c", func := "loop.example/foxcalculus/laws.FnExactSeriesShuffle", spec := "fnExactSeriesShuffle", inPlace := ["internal/bytealg.abigen_runtime_cmpstring"], unfollowed := true, recurses := true, apart := false }
def FnExactSeriesShuffleSaid : Prop := fnExactSeriesShuffleRow.holds Try.pinned (OpenSpec.ofChange fnExactSeriesShuffleSpec)

/-- ITS FALSE NEIGHBOUR: 'it returns false'. Refute it at one input. -/
def fnExactSeriesShuffleWrong : ChangeSpec := { name := "fnExactSeriesShuffle", fn := fun _ => fun
  | [d1, d2] => { results := [.lit (.bool false)], args := [d1, d2] }
  | _ => none }
def FnExactSeriesShuffleWrongFalsely : Prop := fnExactSeriesShuffleRow.holds Try.pinned (OpenSpec.ofChange fnExactSeriesShuffleWrong)

/-- 'laws.FnShuffle': WHATEVER THE INPUT: true; the input reads as it did. -/
def fnShuffleSpec : ChangeSpec := { name := "fnShuffle", fn := fun _ => fun
  | [d] => { results := [.lit (.bool true)], args := [d] }
  | _ => none }
def fnShuffleRow : OpenClaim := { program := "ytmbffbjopehllaa", sum := "8e8d063e7f5c43a02a2ca4e45dfe644d450a86754058407b59d618c9c9e6f32c", func := "loop.example/foxcalculus/laws.FnShuffle", spec := "fnShuffle", inPlace := ["internal/bytealg.abigen_runtime_cmpstring"], unfollowed := true, recurses := true, apart := false }
def FnShuffleSaid : Prop := fnShuffleRow.holds Try.pinned (OpenSpec.ofChange fnShuffleSpec)

/-- ITS FALSE NEIGHBOUR: 'it returns false'. Refute it at one input. -/
def fnShuffleWrong : ChangeSpec := { name := "fnShuffle", fn := fun _ => fun
  | [d] => { results := [.lit (.bool false)], args := [d] }
  | _ => none }
def FnShuffleWrongFalsely : Prop := fnShuffleRow.holds Try.pinned (OpenSpec.ofChange fnShuffleWrong)

/-- 'laws.FnDepthSum': WHATEVER THE INPUT: true; the input reads as it did. -/
def fnDepthSumSpec : ChangeSpec := { name := "fnDepthSum", fn := fun _ => fun
  | [d] => { results := [.lit (.bool true)], args := [d] }
  | _ => none }
def fnDepthSumRow : OpenClaim := { program := "ytmbffbjopehllaa", sum := "8e8d063e7f5c43a02a2ca4e45dfe644d450a86754058407b59d618c9c9e6f32c", func := "loop.example/foxcalculus/laws.FnDepthSum", spec := "fnDepthSum", inPlace := ["maps.clone", "internal/bytealg.abigen_runtime_cmpstring"], unfollowed := true, recurses := true, apart := false }
def FnDepthSumSaid : Prop := fnDepthSumRow.holds Try.pinned (OpenSpec.ofChange fnDepthSumSpec)

/-- ITS FALSE NEIGHBOUR: 'it returns false'. Refute it at one input. -/
def fnDepthSumWrong : ChangeSpec := { name := "fnDepthSum", fn := fun _ => fun
  | [d] => { results := [.lit (.bool false)], args := [d] }
  | _ => none }
def FnDepthSumWrongFalsely : Prop := fnDepthSumRow.holds Try.pinned (OpenSpec.ofChange fnDepthSumWrong)

/- THE SECOND FORM. 'bulk': how many values and letters a reading holds, each counted each time it is reached (what is shared counts as often as it is met; a slice's spare places count too). A statement '..UptoSaid' is the law's where the arguments, and the package variables that the reading takes, are together of bulk at most 1048576: NARROWER than '..Said'. Prove '..Said' where nothing that the law and all that it calls make is longer than what came in: it says more and counts as full. Else prove '..UptoSaid'. A law counts once. -/
mutual
def uptoBulk {H : Type} : DataW H → Nat
  | .lit (.string bytes) => bytes.length + 1
  | .lit _ => 1
  | .nil => 1
  | .ptr d => uptoBulk d + 1
  | .slice elems spare => uptoBulkAll elems + uptoBulkAll spare + 1
  | .agg parts => uptoBulkAll parts + 1
  | .iface _ d => uptoBulk d + 1
  | .map entries => uptoBulkEntries entries + 1
  | .held _ => 1
def uptoBulkAll {H : Type} : List (DataW H) → Nat
  | [] => 0
  | d :: r => uptoBulk d + uptoBulkAll r
def uptoBulkEntries {H : Type} : List (Lit × DataW H) → Nat
  | [] => 0
  | x :: r => uptoBulkEntry x + uptoBulkEntries r
def uptoBulkEntry {H : Type} : Lit × DataW H → Nat
  | (.string bytes, d) => bytes.length + uptoBulk d + 1
  | (_, d) => uptoBulk d + 1
 end
def uptoSmall : (H : Type) → List (DataW H) → Bool := fun _ ds => decide (uptoBulkAll ds ≤ 1048576)
def OpenSpec.upto (s : _root_.Go.ChangeSpec) : _root_.Go.OpenSpec := { _root_.Go.OpenSpec.ofChange s with cond := some uptoSmall }

/-- 'laws.FnExactSeriesIn', WHERE WHAT IT READS IS OF BULK AT MOST 1048576: true; the input reads as it did. -/
def fnExactSeriesInUptoRow : OpenClaim := { program := "ytmbffbjopehllaa", sum := "8e8d063e7f5c43a02a2ca4e45dfe644d450a86754058407b59d618c9c9e6f32c", func := "loop.example/foxcalculus/laws.FnExactSeriesIn", spec := "fnExactSeriesIn", inPlace := ["internal/bytealg.abigen_runtime_cmpstring"], unfollowed := true, recurses := true, apart := false, narrowed := true }
def FnExactSeriesInUptoSaid : Prop := fnExactSeriesInUptoRow.holds Try.pinned (OpenSpec.upto fnExactSeriesInSpec)

/-- 'laws.FnExactSeriesOf', WHERE WHAT IT READS IS OF BULK AT MOST 1048576: true; the input reads as it did. -/
def fnExactSeriesOfUptoRow : OpenClaim := { program := "ytmbffbjopehllaa", sum := "8e8d063e7f5c43a02a2ca4e45dfe644d450a86754058407b59d618c9c9e6f32c", func := "loop.example/foxcalculus/laws.FnExactSeriesOf", spec := "fnExactSeriesOf", inPlace := ["maps.clone", "internal/bytealg.abigen_runtime_cmpstring"], unfollowed := true, recurses := true, apart := false, narrowed := true }
def FnExactSeriesOfUptoSaid : Prop := fnExactSeriesOfUptoRow.holds Try.pinned (OpenSpec.upto fnExactSeriesOfSpec)

/-- 'laws.FnExactSeriesTimes', WHERE WHAT IT READS IS OF BULK AT MOST 1048576: true; the input reads as it did. -/
def fnExactSeriesTimesUptoRow : OpenClaim := { program := "ytmbffbjopehllaa", sum := "8e8d063e7f5c43a02a2ca4e45dfe644d450a86754058407b59d618c9c9e6f32c", func := "loop.example/foxcalculus/laws.FnExactSeriesTimes", spec := "fnExactSeriesTimes", inPlace := ["internal/bytealg.abigen_runtime_cmpstring", "maps.clone"], unfollowed := true, recurses := true, apart := false, narrowed := true }
def FnExactSeriesTimesUptoSaid : Prop := fnExactSeriesTimesUptoRow.holds Try.pinned (OpenSpec.upto fnExactSeriesTimesSpec)

/-- 'laws.FnExactSeriesCoef', WHERE WHAT IT READS IS OF BULK AT MOST 1048576: true; the input reads as it did. -/
def fnExactSeriesCoefUptoRow : OpenClaim := { program := "ytmbffbjopehllaa", sum := "8e8d063e7f5c43a02a2ca4e45dfe644d450a86754058407b59d618c9c9e6f32c", func := "loop.example/foxcalculus/laws.FnExactSeriesCoef", spec := "fnExactSeriesCoef", inPlace := ["maps.clone", "internal/bytealg.abigen_runtime_cmpstring"], unfollowed := true, recurses := true, apart := false, narrowed := true }
def FnExactSeriesCoefUptoSaid : Prop := fnExactSeriesCoefUptoRow.holds Try.pinned (OpenSpec.upto fnExactSeriesCoefSpec)

/-- 'laws.FnExactSeriesDepth', WHERE WHAT IT READS IS OF BULK AT MOST 1048576: true; the input reads as it did. -/
def fnExactSeriesDepthUptoRow : OpenClaim := { program := "ytmbffbjopehllaa", sum := "8e8d063e7f5c43a02a2ca4e45dfe644d450a86754058407b59d618c9c9e6f32c", func := "loop.example/foxcalculus/laws.FnExactSeriesDepth", spec := "fnExactSeriesDepth", inPlace := ["maps.clone", "internal/bytealg.abigen_runtime_cmpstring"], unfollowed := true, recurses := true, apart := false, narrowed := true }
def FnExactSeriesDepthUptoSaid : Prop := fnExactSeriesDepthUptoRow.holds Try.pinned (OpenSpec.upto fnExactSeriesDepthSpec)

/-- 'laws.FnExactSeriesShuffle', WHERE WHAT IT READS IS OF BULK AT MOST 1048576: true; the input reads as it did. -/
def fnExactSeriesShuffleUptoRow : OpenClaim := { program := "ytmbffbjopehllaa", sum := "8e8d063e7f5c43a02a2ca4e45dfe644d450a86754058407b59d618c9c9e6f32c", func := "loop.example/foxcalculus/laws.FnExactSeriesShuffle", spec := "fnExactSeriesShuffle", inPlace := ["internal/bytealg.abigen_runtime_cmpstring"], unfollowed := true, recurses := true, apart := false, narrowed := true }
def FnExactSeriesShuffleUptoSaid : Prop := fnExactSeriesShuffleUptoRow.holds Try.pinned (OpenSpec.upto fnExactSeriesShuffleSpec)

/-- 'laws.FnShuffle', WHERE WHAT IT READS IS OF BULK AT MOST 1048576: true; the input reads as it did. -/
def fnShuffleUptoRow : OpenClaim := { program := "ytmbffbjopehllaa", sum := "8e8d063e7f5c43a02a2ca4e45dfe644d450a86754058407b59d618c9c9e6f32c", func := "loop.example/foxcalculus/laws.FnShuffle", spec := "fnShuffle", inPlace := ["internal/bytealg.abigen_runtime_cmpstring"], unfollowed := true, recurses := true, apart := false, narrowed := true }
def FnShuffleUptoSaid : Prop := fnShuffleUptoRow.holds Try.pinned (OpenSpec.upto fnShuffleSpec)

/-- 'laws.FnDepthSum', WHERE WHAT IT READS IS OF BULK AT MOST 1048576: true; the input reads as it did. -/
def fnDepthSumUptoRow : OpenClaim := { program := "ytmbffbjopehllaa", sum := "8e8d063e7f5c43a02a2ca4e45dfe644d450a86754058407b59d618c9c9e6f32c", func := "loop.example/foxcalculus/laws.FnDepthSum", spec := "fnDepthSum", inPlace := ["maps.clone", "internal/bytealg.abigen_runtime_cmpstring"], unfollowed := true, recurses := true, apart := false, narrowed := true }
def FnDepthSumUptoSaid : Prop := fnDepthSumUptoRow.holds Try.pinned (OpenSpec.upto fnDepthSumSpec)

end Rows
end Go.Proofs.Ytmbffbjopehllaa

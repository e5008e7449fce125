/-
  No cell of these rows narrows 'for every input' (looked for: loops, veiled, ifaces, maps, wideKeys, modest, calm, conditions, laid).
  DERIVED. THE GIVEN ROWS OF THIS SEAT. 10 by the template 'for every input the law returns true; each argument reads behind the call as it read before'; 0 by the template 'total and deterministic' (their statements: YtebgcebjlbhjjabTotals.lean).
  GIVEN WITH THE SEED: the statements are not yours to turn. If you find one false, say at which input.
  Laid BY PROGRAM, IN A SANDBOX (cutbox-rows.mjs): the forced cells as the released guide's own fill.sh prints them over the translation c021d68185602deb… (all of the seat's roots in one cut). By AI agents, Wed Nov 11 2026. No macro, syntax, notation, axiom, sorry.
-/
import Derived.Test.YtebgcebjlbhjjabChecked
import GoSem.Claim
import GoSem.ClaimJoined
import GoSem.ClaimMapViews
import Derived.JoinedTies
import Derived.KernelRfl
namespace Go.Proofs.Ytebgcebjlbhjjab
/- THE CELL 'sum', in the pinned program and in every row, IS THE sha256 OF THE DUMP (.gsa) THAT YtebgcebjlbhjjabProg.lean LOADS. Nothing in Lean hashes anything: it is a label: what it is worth is what the hold of that sum in a sandbox is worth. -/
noncomputable def Try.pinned : Pinned := { name := "ytebgcebjlbhjjab", sum := "c021d68185602debbacbf50438bcf3230255cdcd137d921e46d239888c091ef2", checked := Try.checked }
namespace Rows
def none {H : Type} : Left H := { results := [], args := [] }

/-- 'laws.FnFoxBack': WHATEVER THE INPUT: true; the input reads as it did. -/
def fnFoxBackSpec : ChangeSpec := { name := "fnFoxBack", fn := fun _ => fun
  | [d] => { results := [.lit (.bool true)], args := [d] }
  | _ => none }
def fnFoxBackRow : OpenClaim := { program := "ytebgcebjlbhjjab", sum := "c021d68185602debbacbf50438bcf3230255cdcd137d921e46d239888c091ef2", func := "loop.example/foxcalculus/laws.FnFoxBack", spec := "fnFoxBack", inPlace := ["internal/bytealg.abigen_runtime_cmpstring"], unfollowed := true, recurses := true, apart := false }
def FnFoxBackSaid : Prop := fnFoxBackRow.holds Try.pinned (OpenSpec.ofChange fnFoxBackSpec)

/-- ITS FALSE NEIGHBOUR: 'it returns false'. Refute it at one input. -/
def fnFoxBackWrong : ChangeSpec := { name := "fnFoxBack", fn := fun _ => fun
  | [d] => { results := [.lit (.bool false)], args := [d] }
  | _ => none }
def FnFoxBackWrongFalsely : Prop := fnFoxBackRow.holds Try.pinned (OpenSpec.ofChange fnFoxBackWrong)

/-- 'laws.FnChain': WHATEVER THE INPUT: true; the input reads as it did. -/
def fnChainSpec : ChangeSpec := { name := "fnChain", fn := fun _ => fun
  | [d] => { results := [.lit (.bool true)], args := [d] }
  | _ => none }
def fnChainRow : OpenClaim := { program := "ytebgcebjlbhjjab", sum := "c021d68185602debbacbf50438bcf3230255cdcd137d921e46d239888c091ef2", func := "loop.example/foxcalculus/laws.FnChain", spec := "fnChain", inPlace := ["internal/bytealg.abigen_runtime_cmpstring"], unfollowed := true, recurses := true, apart := false }
def FnChainSaid : Prop := fnChainRow.holds Try.pinned (OpenSpec.ofChange fnChainSpec)

/-- ITS FALSE NEIGHBOUR: 'it returns false'. Refute it at one input. -/
def fnChainWrong : ChangeSpec := { name := "fnChain", fn := fun _ => fun
  | [d] => { results := [.lit (.bool false)], args := [d] }
  | _ => none }
def FnChainWrongFalsely : Prop := fnChainRow.holds Try.pinned (OpenSpec.ofChange fnChainWrong)

/-- 'laws.FnTwice': WHATEVER THE INPUT: true; the input reads as it did. -/
def fnTwiceSpec : ChangeSpec := { name := "fnTwice", fn := fun _ => fun
  | [d] => { results := [.lit (.bool true)], args := [d] }
  | _ => none }
def fnTwiceRow : OpenClaim := { program := "ytebgcebjlbhjjab", sum := "c021d68185602debbacbf50438bcf3230255cdcd137d921e46d239888c091ef2", func := "loop.example/foxcalculus/laws.FnTwice", spec := "fnTwice", inPlace := ["internal/bytealg.abigen_runtime_cmpstring"], unfollowed := true, recurses := true, apart := false }
def FnTwiceSaid : Prop := fnTwiceRow.holds Try.pinned (OpenSpec.ofChange fnTwiceSpec)

/-- ITS FALSE NEIGHBOUR: 'it returns false'. Refute it at one input. -/
def fnTwiceWrong : ChangeSpec := { name := "fnTwice", fn := fun _ => fun
  | [d] => { results := [.lit (.bool false)], args := [d] }
  | _ => none }
def FnTwiceWrongFalsely : Prop := fnTwiceRow.holds Try.pinned (OpenSpec.ofChange fnTwiceWrong)

/-- 'laws.FnSeries': WHATEVER THE INPUT: true; the input reads as it did. -/
def fnSeriesSpec : ChangeSpec := { name := "fnSeries", fn := fun _ => fun
  | [d] => { results := [.lit (.bool true)], args := [d] }
  | _ => none }
def fnSeriesRow : OpenClaim := { program := "ytebgcebjlbhjjab", sum := "c021d68185602debbacbf50438bcf3230255cdcd137d921e46d239888c091ef2", func := "loop.example/foxcalculus/laws.FnSeries", spec := "fnSeries", inPlace := ["internal/bytealg.abigen_runtime_cmpstring", "maps.clone"], unfollowed := true, recurses := true, apart := false }
def FnSeriesSaid : Prop := fnSeriesRow.holds Try.pinned (OpenSpec.ofChange fnSeriesSpec)

/-- ITS FALSE NEIGHBOUR: 'it returns false'. Refute it at one input. -/
def fnSeriesWrong : ChangeSpec := { name := "fnSeries", fn := fun _ => fun
  | [d] => { results := [.lit (.bool false)], args := [d] }
  | _ => none }
def FnSeriesWrongFalsely : Prop := fnSeriesRow.holds Try.pinned (OpenSpec.ofChange fnSeriesWrong)

/-- 'laws.FnSeriesOf': WHATEVER THE INPUT: true; the input reads as it did. -/
def fnSeriesOfSpec : ChangeSpec := { name := "fnSeriesOf", fn := fun _ => fun
  | [d] => { results := [.lit (.bool true)], args := [d] }
  | _ => none }
def fnSeriesOfRow : OpenClaim := { program := "ytebgcebjlbhjjab", sum := "c021d68185602debbacbf50438bcf3230255cdcd137d921e46d239888c091ef2", func := "loop.example/foxcalculus/laws.FnSeriesOf", spec := "fnSeriesOf", inPlace := ["maps.clone", "internal/bytealg.abigen_runtime_cmpstring"], unfollowed := true, recurses := true, apart := false }
def FnSeriesOfSaid : Prop := fnSeriesOfRow.holds Try.pinned (OpenSpec.ofChange fnSeriesOfSpec)

/-- ITS FALSE NEIGHBOUR: 'it returns false'. Refute it at one input. -/
def fnSeriesOfWrong : ChangeSpec := { name := "fnSeriesOf", fn := fun _ => fun
  | [d] => { results := [.lit (.bool false)], args := [d] }
  | _ => none }
def FnSeriesOfWrongFalsely : Prop := fnSeriesOfRow.holds Try.pinned (OpenSpec.ofChange fnSeriesOfWrong)

/-- 'laws.FnSeriesTimes': WHATEVER THE INPUT: true; the input reads as it did. -/
def fnSeriesTimesSpec : ChangeSpec := { name := "fnSeriesTimes", fn := fun _ => fun
  | [d] => { results := [.lit (.bool true)], args := [d] }
  | _ => none }
def fnSeriesTimesRow : OpenClaim := { program := "ytebgcebjlbhjjab", sum := "c021d68185602debbacbf50438bcf3230255cdcd137d921e46d239888c091ef2", func := "loop.example/foxcalculus/laws.FnSeriesTimes", spec := "fnSeriesTimes", inPlace := ["maps.clone", "internal/bytealg.abigen_runtime_cmpstring"], unfollowed := true, recurses := true, apart := false }
def FnSeriesTimesSaid : Prop := fnSeriesTimesRow.holds Try.pinned (OpenSpec.ofChange fnSeriesTimesSpec)

/-- ITS FALSE NEIGHBOUR: 'it returns false'. Refute it at one input. -/
def fnSeriesTimesWrong : ChangeSpec := { name := "fnSeriesTimes", fn := fun _ => fun
  | [d] => { results := [.lit (.bool false)], args := [d] }
  | _ => none }
def FnSeriesTimesWrongFalsely : Prop := fnSeriesTimesRow.holds Try.pinned (OpenSpec.ofChange fnSeriesTimesWrong)

/-- 'laws.FnTimesBrackets': WHATEVER THE INPUT: true; the input reads as it did. -/
def fnTimesBracketsSpec : ChangeSpec := { name := "fnTimesBrackets", fn := fun _ => fun
  | [d] => { results := [.lit (.bool true)], args := [d] }
  | _ => none }
def fnTimesBracketsRow : OpenClaim := { program := "ytebgcebjlbhjjab", sum := "c021d68185602debbacbf50438bcf3230255cdcd137d921e46d239888c091ef2", func := "loop.example/foxcalculus/laws.FnTimesBrackets", spec := "fnTimesBrackets", inPlace := ["internal/bytealg.abigen_runtime_cmpstring", "maps.clone"], unfollowed := true, recurses := true, apart := false }
def FnTimesBracketsSaid : Prop := fnTimesBracketsRow.holds Try.pinned (OpenSpec.ofChange fnTimesBracketsSpec)

/-- ITS FALSE NEIGHBOUR: 'it returns false'. Refute it at one input. -/
def fnTimesBracketsWrong : ChangeSpec := { name := "fnTimesBrackets", fn := fun _ => fun
  | [d] => { results := [.lit (.bool false)], args := [d] }
  | _ => none }
def FnTimesBracketsWrongFalsely : Prop := fnTimesBracketsRow.holds Try.pinned (OpenSpec.ofChange fnTimesBracketsWrong)

/-- 'laws.FnCoef': WHATEVER THE INPUT: true; the input reads as it did. -/
def fnCoefSpec : ChangeSpec := { name := "fnCoef", fn := fun _ => fun
  | [d] => { results := [.lit (.bool true)], args := [d] }
  | _ => none }
def fnCoefRow : OpenClaim := { program := "ytebgcebjlbhjjab", sum := "c021d68185602debbacbf50438bcf3230255cdcd137d921e46d239888c091ef2", func := "loop.example/foxcalculus/laws.FnCoef", spec := "fnCoef", inPlace := ["maps.clone", "internal/bytealg.abigen_runtime_cmpstring"], unfollowed := true, recurses := true, apart := false }
def FnCoefSaid : Prop := fnCoefRow.holds Try.pinned (OpenSpec.ofChange fnCoefSpec)

/-- ITS FALSE NEIGHBOUR: 'it returns false'. Refute it at one input. -/
def fnCoefWrong : ChangeSpec := { name := "fnCoef", fn := fun _ => fun
  | [d] => { results := [.lit (.bool false)], args := [d] }
  | _ => none }
def FnCoefWrongFalsely : Prop := fnCoefRow.holds Try.pinned (OpenSpec.ofChange fnCoefWrong)

/-- 'laws.FnLowest': WHATEVER THE INPUT: true; the input reads as it did. -/
def fnLowestSpec : ChangeSpec := { name := "fnLowest", fn := fun _ => fun
  | [d] => { results := [.lit (.bool true)], args := [d] }
  | _ => none }
def fnLowestRow : OpenClaim := { program := "ytebgcebjlbhjjab", sum := "c021d68185602debbacbf50438bcf3230255cdcd137d921e46d239888c091ef2", func := "loop.example/foxcalculus/laws.FnLowest", spec := "fnLowest", inPlace := ["maps.clone", "internal/bytealg.abigen_runtime_cmpstring"], unfollowed := true, recurses := true, apart := false }
def FnLowestSaid : Prop := fnLowestRow.holds Try.pinned (OpenSpec.ofChange fnLowestSpec)

/-- ITS FALSE NEIGHBOUR: 'it returns false'. Refute it at one input. -/
def fnLowestWrong : ChangeSpec := { name := "fnLowest", fn := fun _ => fun
  | [d] => { results := [.lit (.bool false)], args := [d] }
  | _ => none }
def FnLowestWrongFalsely : Prop := fnLowestRow.holds Try.pinned (OpenSpec.ofChange fnLowestWrong)

/-- 'laws.FnDepth': WHATEVER THE INPUT: true; the input reads as it did. -/
def fnDepthSpec : ChangeSpec := { name := "fnDepth", fn := fun _ => fun
  | [d] => { results := [.lit (.bool true)], args := [d] }
  | _ => none }
def fnDepthRow : OpenClaim := { program := "ytebgcebjlbhjjab", sum := "c021d68185602debbacbf50438bcf3230255cdcd137d921e46d239888c091ef2", func := "loop.example/foxcalculus/laws.FnDepth", spec := "fnDepth", inPlace := ["maps.clone", "internal/bytealg.abigen_runtime_cmpstring"], unfollowed := true, recurses := true, apart := false }
def FnDepthSaid : Prop := fnDepthRow.holds Try.pinned (OpenSpec.ofChange fnDepthSpec)

/-- ITS FALSE NEIGHBOUR: 'it returns false'. Refute it at one input. -/
def fnDepthWrong : ChangeSpec := { name := "fnDepth", fn := fun _ => fun
  | [d] => { results := [.lit (.bool false)], args := [d] }
  | _ => none }
def FnDepthWrongFalsely : Prop := fnDepthRow.holds Try.pinned (OpenSpec.ofChange fnDepthWrong)

/- THE SECOND FORM. 'bulk': how many values and letters a reading holds, each counted each time it is reached (what is shared counts as often as it is met; a slice's spare places count too). A statement '..UptoSaid' is the law's where the arguments, and the package variables that the reading takes, are together of bulk at most 1048576: NARROWER than '..Said'. Prove '..Said' where nothing that the law and all that it calls make is longer than what came in: it says more and counts as full. Else prove '..UptoSaid'. A law counts once. -/
mutual
def uptoBulk {H : Type} : DataW H → Nat
  | .lit (.string bytes) => bytes.length + 1
  | .lit _ => 1
  | .nil => 1
  | .ptr d => uptoBulk d + 1
  | .slice elems spare => uptoBulkAll elems + uptoBulkAll spare + 1
  | .agg parts => uptoBulkAll parts + 1
  | .iface _ d => uptoBulk d + 1
  | .map entries => uptoBulkEntries entries + 1
  | .held _ => 1
def uptoBulkAll {H : Type} : List (DataW H) → Nat
  | [] => 0
  | d :: r => uptoBulk d + uptoBulkAll r
def uptoBulkEntries {H : Type} : List (Lit × DataW H) → Nat
  | [] => 0
  | x :: r => uptoBulkEntry x + uptoBulkEntries r
def uptoBulkEntry {H : Type} : Lit × DataW H → Nat
  | (.string bytes, d) => bytes.length + uptoBulk d + 1
  | (_, d) => uptoBulk d + 1
 end
def uptoSmall : (H : Type) → List (DataW H) → Bool := fun _ ds => decide (uptoBulkAll ds ≤ 1048576)
def OpenSpec.upto (s : _root_.Go.ChangeSpec) : _root_.Go.OpenSpec := { _root_.Go.OpenSpec.ofChange s with cond := some uptoSmall }

/-- 'laws.FnFoxBack', WHERE WHAT IT READS IS OF BULK AT MOST 1048576: true; the input reads as it did. -/
def fnFoxBackUptoRow : OpenClaim := { program := "ytebgcebjlbhjjab", sum := "c021d68185602debbacbf50438bcf3230255cdcd137d921e46d239888c091ef2", func := "loop.example/foxcalculus/laws.FnFoxBack", spec := "fnFoxBack", inPlace := ["internal/bytealg.abigen_runtime_cmpstring"], unfollowed := true, recurses := true, apart := false, narrowed := true }
def FnFoxBackUptoSaid : Prop := fnFoxBackUptoRow.holds Try.pinned (OpenSpec.upto fnFoxBackSpec)

/-- 'laws.FnChain', WHERE WHAT IT READS IS OF BULK AT MOST 1048576: true; the input reads as it did. -/
def fnChainUptoRow : OpenClaim := { program := "ytebgcebjlbhjjab", sum := "c021d68185602debbacbf50438bcf3230255cdcd137d921e46d239888c091ef2", func := "loop.example/foxcalculus/laws.FnChain", spec := "fnChain", inPlace := ["internal/bytealg.abigen_runtime_cmpstring"], unfollowed := true, recurses := true, apart := false, narrowed := true }
def FnChainUptoSaid : Prop := fnChainUptoRow.holds Try.pinned (OpenSpec.upto fnChainSpec)

/-- 'laws.FnTwice', WHERE WHAT IT READS IS OF BULK AT MOST 1048576: true; the input reads as it did. -/
def fnTwiceUptoRow : OpenClaim := { program := "ytebgcebjlbhjjab", sum := "c021d68185602debbacbf50438bcf3230255cdcd137d921e46d239888c091ef2", func := "loop.example/foxcalculus/laws.FnTwice", spec := "fnTwice", inPlace := ["internal/bytealg.abigen_runtime_cmpstring"], unfollowed := true, recurses := true, apart := false, narrowed := true }
def FnTwiceUptoSaid : Prop := fnTwiceUptoRow.holds Try.pinned (OpenSpec.upto fnTwiceSpec)

/-- 'laws.FnSeries', WHERE WHAT IT READS IS OF BULK AT MOST 1048576: true; the input reads as it did. -/
def fnSeriesUptoRow : OpenClaim := { program := "ytebgcebjlbhjjab", sum := "c021d68185602debbacbf50438bcf3230255cdcd137d921e46d239888c091ef2", func := "loop.example/foxcalculus/laws.FnSeries", spec := "fnSeries", inPlace := ["internal/bytealg.abigen_runtime_cmpstring", "maps.clone"], unfollowed := true, recurses := true, apart := false, narrowed := true }
def FnSeriesUptoSaid : Prop := fnSeriesUptoRow.holds Try.pinned (OpenSpec.upto fnSeriesSpec)

/-- 'laws.FnSeriesOf', WHERE WHAT IT READS IS OF BULK AT MOST 1048576: true; the input reads as it did. -/
def fnSeriesOfUptoRow : OpenClaim := { program := "ytebgcebjlbhjjab", sum := "c021d68185602debbacbf50438bcf3230255cdcd137d921e46d239888c091ef2", func := "loop.example/foxcalculus/laws.FnSeriesOf", spec := "fnSeriesOf", inPlace := ["maps.clone", "internal/bytealg.abigen_runtime_cmpstring"], unfollowed := true, recurses := true, apart := false, narrowed := true }
def FnSeriesOfUptoSaid : Prop := fnSeriesOfUptoRow.holds Try.pinned (OpenSpec.upto fnSeriesOfSpec)

/-- 'laws.FnSeriesTimes', WHERE WHAT IT READS IS OF BULK AT MOST 1048576: true; the input reads as it did. -/
def fnSeriesTimesUptoRow : OpenClaim := { program := "ytebgcebjlbhjjab", sum := "c021d68185602debbacbf50438bcf3230255cdcd137d921e46d239888c091ef2", func := "loop.example/foxcalculus/laws.FnSeriesTimes", spec := "fnSeriesTimes", inPlace := ["maps.clone", "internal/bytealg.abigen_runtime_cmpstring"], unfollowed := true, recurses := true, apart := false, narrowed := true }
def FnSeriesTimesUptoSaid : Prop := fnSeriesTimesUptoRow.holds Try.pinned (OpenSpec.upto fnSeriesTimesSpec)

/-- 'laws.FnTimesBrackets', WHERE WHAT IT READS IS OF BULK AT MOST 1048576: true; the input reads as it did. -/
def fnTimesBracketsUptoRow : OpenClaim := { program := "ytebgcebjlbhjjab", sum := "c021d68185602debbacbf50438bcf3230255cdcd137d921e46d239888c091ef2", func := "loop.example/foxcalculus/laws.FnTimesBrackets", spec := "fnTimesBrackets", inPlace := ["internal/bytealg.abigen_runtime_cmpstring", "maps.clone"], unfollowed := true, recurses := true, apart := false, narrowed := true }
def FnTimesBracketsUptoSaid : Prop := fnTimesBracketsUptoRow.holds Try.pinned (OpenSpec.upto fnTimesBracketsSpec)

/-- 'laws.FnCoef', WHERE WHAT IT READS IS OF BULK AT MOST 1048576: true; the input reads as it did. -/
def fnCoefUptoRow : OpenClaim := { program := "ytebgcebjlbhjjab", sum := "c021d68185602debbacbf50438bcf3230255cdcd137d921e46d239888c091ef2", func := "loop.example/foxcalculus/laws.FnCoef", spec := "fnCoef", inPlace := ["maps.clone", "internal/bytealg.abigen_runtime_cmpstring"], unfollowed := true, recurses := true, apart := false, narrowed := true }
def FnCoefUptoSaid : Prop := fnCoefUptoRow.holds Try.pinned (OpenSpec.upto fnCoefSpec)

/-- 'laws.FnLowest', WHERE WHAT IT READS IS OF BULK AT MOST 1048576: true; the input reads as it did. -/
def fnLowestUptoRow : OpenClaim := { program := "ytebgcebjlbhjjab", sum := "c021d68185602debbacbf50438bcf3230255cdcd137d921e46d239888c091ef2", func := "loop.example/foxcalculus/laws.FnLowest", spec := "fnLowest", inPlace := ["maps.clone", "internal/bytealg.abigen_runtime_cmpstring"], unfollowed := true, recurses := true, apart := false, narrowed := true }
def FnLowestUptoSaid : Prop := fnLowestUptoRow.holds Try.pinned (OpenSpec.upto fnLowestSpec)

/-- 'laws.FnDepth', WHERE WHAT IT READS IS OF BULK AT MOST 1048576: true; the input reads as it did. -/
def fnDepthUptoRow : OpenClaim := { program := "ytebgcebjlbhjjab", sum := "c021d68185602debbacbf50438bcf3230255cdcd137d921e46d239888c091ef2", func := "loop.example/foxcalculus/laws.FnDepth", spec := "fnDepth", inPlace := ["maps.clone", "internal/bytealg.abigen_runtime_cmpstring"], unfollowed := true, recurses := true, apart := false, narrowed := true }
def FnDepthUptoSaid : Prop := fnDepthUptoRow.holds Try.pinned (OpenSpec.upto fnDepthSpec)

end Rows
end Go.Proofs.Ytebgcebjlbhjjab

/-
  No cell of these rows narrows 'for every input' (looked for: loops, veiled, ifaces, maps, wideKeys, modest, calm, conditions, laid).
  DERIVED. THE GIVEN ROWS OF THIS SEAT. 14 by the template 'for every input the law returns true; each argument reads behind the call as it read before'; 0 by the template 'total and deterministic' (their statements: YtdhmicpoigoleaaTotals.lean).
  GIVEN WITH THE SEED: the statements are not yours to turn. If you find one false, say at which input.
  Laid BY PROGRAM, IN A SANDBOX (cutbox-rows.mjs): the forced cells as the released guide's own fill.sh prints them over the translation 2ed657ee430c7fea… (all of the seat's roots in one cut). By AI agents, Wed Nov 11 2026. No macro, syntax, notation, axiom, sorry.
-/
import Derived.Test.YtdhmicpoigoleaaChecked
import GoSem.Claim
import GoSem.ClaimJoined
import GoSem.ClaimMapViews
import Derived.JoinedTies
import Derived.KernelRfl
namespace Go.Proofs.Ytdhmicpoigoleaa
/- THE CELL 'sum', in the pinned program and in every row, IS THE sha256 OF THE DUMP (.gsa) THAT YtdhmicpoigoleaaProg.lean LOADS. Nothing in Lean hashes anything: it is a label: what it is worth is what the hold of that sum in a sandbox is worth. -/
noncomputable def Try.pinned : Pinned := { name := "ytdhmicpoigoleaa", sum := "2ed657ee430c7fea0527cd38f9fc6fc988b61cbd2abf8e66bc69a3ab6777c5b9", checked := Try.checked }
namespace Rows
def none {H : Type} : Left H := { results := [], args := [] }

/-- 'laws.FnExactNestOf': WHATEVER THE INPUT: true; the input reads as it did. -/
def fnExactNestOfSpec : ChangeSpec := { name := "fnExactNestOf", fn := fun _ => fun
  | [d] => { results := [.lit (.bool true)], args := [d] }
  | _ => none }
def fnExactNestOfRow : OpenClaim := { program := "ytdhmicpoigoleaa", sum := "2ed657ee430c7fea0527cd38f9fc6fc988b61cbd2abf8e66bc69a3ab6777c5b9", func := "loop.example/foxcalculus/laws.FnExactNestOf", spec := "fnExactNestOf", unfollowed := true, recurses := true, apart := false }
def FnExactNestOfSaid : Prop := fnExactNestOfRow.holds Try.pinned (OpenSpec.ofChange fnExactNestOfSpec)

/-- ITS FALSE NEIGHBOUR: 'it returns false'. Refute it at one input. -/
def fnExactNestOfWrong : ChangeSpec := { name := "fnExactNestOf", fn := fun _ => fun
  | [d] => { results := [.lit (.bool false)], args := [d] }
  | _ => none }
def FnExactNestOfWrongFalsely : Prop := fnExactNestOfRow.holds Try.pinned (OpenSpec.ofChange fnExactNestOfWrong)

/-- 'laws.FnExactLyndonIn': WHATEVER THE INPUT: true; the input reads as it did. -/
def fnExactLyndonInSpec : ChangeSpec := { name := "fnExactLyndonIn", fn := fun _ => fun
  | [d] => { results := [.lit (.bool true)], args := [d] }
  | _ => none }
def fnExactLyndonInRow : OpenClaim := { program := "ytdhmicpoigoleaa", sum := "2ed657ee430c7fea0527cd38f9fc6fc988b61cbd2abf8e66bc69a3ab6777c5b9", func := "loop.example/foxcalculus/laws.FnExactLyndonIn", spec := "fnExactLyndonIn", unfollowed := true, recurses := true, apart := false }
def FnExactLyndonInSaid : Prop := fnExactLyndonInRow.holds Try.pinned (OpenSpec.ofChange fnExactLyndonInSpec)

/-- ITS FALSE NEIGHBOUR: 'it returns false'. Refute it at one input. -/
def fnExactLyndonInWrong : ChangeSpec := { name := "fnExactLyndonIn", fn := fun _ => fun
  | [d] => { results := [.lit (.bool false)], args := [d] }
  | _ => none }
def FnExactLyndonInWrongFalsely : Prop := fnExactLyndonInRow.holds Try.pinned (OpenSpec.ofChange fnExactLyndonInWrong)

/-- 'laws.FnExactLyndonList': WHATEVER THE INPUT: true; the input reads as it did. -/
def fnExactLyndonListSpec : ChangeSpec := { name := "fnExactLyndonList", fn := fun _ => fun
  | [d1, d2] => { results := [.lit (.bool true)], args := [d1, d2] }
  | _ => none }
def fnExactLyndonListRow : OpenClaim := { program := "ytdhmicpoigoleaa", sum := "2ed657ee430c7fea0527cd38f9fc6fc988b61cbd2abf8e66bc69a3ab6777c5b9", func := "loop.example/foxcalculus/laws.FnExactLyndonList", spec := "fnExactLyndonList", unfollowed := true, recurses := true, apart := false }
def FnExactLyndonListSaid : Prop := fnExactLyndonListRow.holds Try.pinned (OpenSpec.ofChange fnExactLyndonListSpec)

/-- ITS FALSE NEIGHBOUR: 'it returns false'. Refute it at one input. -/
def fnExactLyndonListWrong : ChangeSpec := { name := "fnExactLyndonList", fn := fun _ => fun
  | [d1, d2] => { results := [.lit (.bool false)], args := [d1, d2] }
  | _ => none }
def FnExactLyndonListWrongFalsely : Prop := fnExactLyndonListRow.holds Try.pinned (OpenSpec.ofChange fnExactLyndonListWrong)

/-- 'laws.FnExactLyndonCount': WHATEVER THE INPUT: true; the input reads as it did. -/
def fnExactLyndonCountSpec : ChangeSpec := { name := "fnExactLyndonCount", fn := fun _ => fun
  | [d1, d2] => { results := [.lit (.bool true)], args := [d1, d2] }
  | _ => none }
def fnExactLyndonCountRow : OpenClaim := { program := "ytdhmicpoigoleaa", sum := "2ed657ee430c7fea0527cd38f9fc6fc988b61cbd2abf8e66bc69a3ab6777c5b9", func := "loop.example/foxcalculus/laws.FnExactLyndonCount", spec := "fnExactLyndonCount", apart := false }
def FnExactLyndonCountSaid : Prop := fnExactLyndonCountRow.holds Try.pinned (OpenSpec.ofChange fnExactLyndonCountSpec)

/-- ITS FALSE NEIGHBOUR: 'it returns false'. Refute it at one input. -/
def fnExactLyndonCountWrong : ChangeSpec := { name := "fnExactLyndonCount", fn := fun _ => fun
  | [d1, d2] => { results := [.lit (.bool false)], args := [d1, d2] }
  | _ => none }
def FnExactLyndonCountWrongFalsely : Prop := fnExactLyndonCountRow.holds Try.pinned (OpenSpec.ofChange fnExactLyndonCountWrong)

/-- 'laws.FnExactLyndonSplit': WHATEVER THE INPUT: true; the input reads as it did. -/
def fnExactLyndonSplitSpec : ChangeSpec := { name := "fnExactLyndonSplit", fn := fun _ => fun
  | [d] => { results := [.lit (.bool true)], args := [d] }
  | _ => none }
def fnExactLyndonSplitRow : OpenClaim := { program := "ytdhmicpoigoleaa", sum := "2ed657ee430c7fea0527cd38f9fc6fc988b61cbd2abf8e66bc69a3ab6777c5b9", func := "loop.example/foxcalculus/laws.FnExactLyndonSplit", spec := "fnExactLyndonSplit", unfollowed := true, recurses := true, apart := false }
def FnExactLyndonSplitSaid : Prop := fnExactLyndonSplitRow.holds Try.pinned (OpenSpec.ofChange fnExactLyndonSplitSpec)

/-- ITS FALSE NEIGHBOUR: 'it returns false'. Refute it at one input. -/
def fnExactLyndonSplitWrong : ChangeSpec := { name := "fnExactLyndonSplit", fn := fun _ => fun
  | [d] => { results := [.lit (.bool false)], args := [d] }
  | _ => none }
def FnExactLyndonSplitWrongFalsely : Prop := fnExactLyndonSplitRow.holds Try.pinned (OpenSpec.ofChange fnExactLyndonSplitWrong)

/-- 'laws.FnExactLyndonFactors': WHATEVER THE INPUT: true; the input reads as it did. -/
def fnExactLyndonFactorsSpec : ChangeSpec := { name := "fnExactLyndonFactors", fn := fun _ => fun
  | [d] => { results := [.lit (.bool true)], args := [d] }
  | _ => none }
def fnExactLyndonFactorsRow : OpenClaim := { program := "ytdhmicpoigoleaa", sum := "2ed657ee430c7fea0527cd38f9fc6fc988b61cbd2abf8e66bc69a3ab6777c5b9", func := "loop.example/foxcalculus/laws.FnExactLyndonFactors", spec := "fnExactLyndonFactors", unfollowed := true, recurses := true, apart := false }
def FnExactLyndonFactorsSaid : Prop := fnExactLyndonFactorsRow.holds Try.pinned (OpenSpec.ofChange fnExactLyndonFactorsSpec)

/-- ITS FALSE NEIGHBOUR: 'it returns false'. Refute it at one input. -/
def fnExactLyndonFactorsWrong : ChangeSpec := { name := "fnExactLyndonFactors", fn := fun _ => fun
  | [d] => { results := [.lit (.bool false)], args := [d] }
  | _ => none }
def FnExactLyndonFactorsWrongFalsely : Prop := fnExactLyndonFactorsRow.holds Try.pinned (OpenSpec.ofChange fnExactLyndonFactorsWrong)

/-- 'laws.FnExactLyndonBracket': WHATEVER THE INPUT: true; the input reads as it did. -/
def fnExactLyndonBracketSpec : ChangeSpec := { name := "fnExactLyndonBracket", fn := fun _ => fun
  | [d] => { results := [.lit (.bool true)], args := [d] }
  | _ => none }
def fnExactLyndonBracketRow : OpenClaim := { program := "ytdhmicpoigoleaa", sum := "2ed657ee430c7fea0527cd38f9fc6fc988b61cbd2abf8e66bc69a3ab6777c5b9", func := "loop.example/foxcalculus/laws.FnExactLyndonBracket", spec := "fnExactLyndonBracket", unfollowed := true, recurses := true, apart := false }
def FnExactLyndonBracketSaid : Prop := fnExactLyndonBracketRow.holds Try.pinned (OpenSpec.ofChange fnExactLyndonBracketSpec)

/-- ITS FALSE NEIGHBOUR: 'it returns false'. Refute it at one input. -/
def fnExactLyndonBracketWrong : ChangeSpec := { name := "fnExactLyndonBracket", fn := fun _ => fun
  | [d] => { results := [.lit (.bool false)], args := [d] }
  | _ => none }
def FnExactLyndonBracketWrongFalsely : Prop := fnExactLyndonBracketRow.holds Try.pinned (OpenSpec.ofChange fnExactLyndonBracketWrong)

/-- 'laws.FnExactLyndonTurn': WHATEVER THE INPUT: true; the input reads as it did. -/
def fnExactLyndonTurnSpec : ChangeSpec := { name := "fnExactLyndonTurn", fn := fun _ => fun
  | [d] => { results := [.lit (.bool true)], args := [d] }
  | _ => none }
def fnExactLyndonTurnRow : OpenClaim := { program := "ytdhmicpoigoleaa", sum := "2ed657ee430c7fea0527cd38f9fc6fc988b61cbd2abf8e66bc69a3ab6777c5b9", func := "loop.example/foxcalculus/laws.FnExactLyndonTurn", spec := "fnExactLyndonTurn", unfollowed := true, recurses := true, apart := false }
def FnExactLyndonTurnSaid : Prop := fnExactLyndonTurnRow.holds Try.pinned (OpenSpec.ofChange fnExactLyndonTurnSpec)

/-- ITS FALSE NEIGHBOUR: 'it returns false'. Refute it at one input. -/
def fnExactLyndonTurnWrong : ChangeSpec := { name := "fnExactLyndonTurn", fn := fun _ => fun
  | [d] => { results := [.lit (.bool false)], args := [d] }
  | _ => none }
def FnExactLyndonTurnWrongFalsely : Prop := fnExactLyndonTurnRow.holds Try.pinned (OpenSpec.ofChange fnExactLyndonTurnWrong)

/-- 'laws.FnLyndonCount': WHATEVER THE INPUT: true; the input reads as it did. -/
def fnLyndonCountSpec : ChangeSpec := { name := "fnLyndonCount", fn := fun _ => fun
  | [d] => { results := [.lit (.bool true)], args := [d] }
  | _ => none }
def fnLyndonCountRow : OpenClaim := { program := "ytdhmicpoigoleaa", sum := "2ed657ee430c7fea0527cd38f9fc6fc988b61cbd2abf8e66bc69a3ab6777c5b9", func := "loop.example/foxcalculus/laws.FnLyndonCount", spec := "fnLyndonCount", apart := false }
def FnLyndonCountSaid : Prop := fnLyndonCountRow.holds Try.pinned (OpenSpec.ofChange fnLyndonCountSpec)

/-- ITS FALSE NEIGHBOUR: 'it returns false'. Refute it at one input. -/
def fnLyndonCountWrong : ChangeSpec := { name := "fnLyndonCount", fn := fun _ => fun
  | [d] => { results := [.lit (.bool false)], args := [d] }
  | _ => none }
def FnLyndonCountWrongFalsely : Prop := fnLyndonCountRow.holds Try.pinned (OpenSpec.ofChange fnLyndonCountWrong)

/-- 'laws.FnLyndon': WHATEVER THE INPUT: true; the input reads as it did. -/
def fnLyndonSpec : ChangeSpec := { name := "fnLyndon", fn := fun _ => fun
  | [d] => { results := [.lit (.bool true)], args := [d] }
  | _ => none }
def fnLyndonRow : OpenClaim := { program := "ytdhmicpoigoleaa", sum := "2ed657ee430c7fea0527cd38f9fc6fc988b61cbd2abf8e66bc69a3ab6777c5b9", func := "loop.example/foxcalculus/laws.FnLyndon", spec := "fnLyndon", unfollowed := true, recurses := true, apart := false }
def FnLyndonSaid : Prop := fnLyndonRow.holds Try.pinned (OpenSpec.ofChange fnLyndonSpec)

/-- ITS FALSE NEIGHBOUR: 'it returns false'. Refute it at one input. -/
def fnLyndonWrong : ChangeSpec := { name := "fnLyndon", fn := fun _ => fun
  | [d] => { results := [.lit (.bool false)], args := [d] }
  | _ => none }
def FnLyndonWrongFalsely : Prop := fnLyndonRow.holds Try.pinned (OpenSpec.ofChange fnLyndonWrong)

/-- 'laws.FnLyndonList': WHATEVER THE INPUT: true; the input reads as it did. -/
def fnLyndonListSpec : ChangeSpec := { name := "fnLyndonList", fn := fun _ => fun
  | [d] => { results := [.lit (.bool true)], args := [d] }
  | _ => none }
def fnLyndonListRow : OpenClaim := { program := "ytdhmicpoigoleaa", sum := "2ed657ee430c7fea0527cd38f9fc6fc988b61cbd2abf8e66bc69a3ab6777c5b9", func := "loop.example/foxcalculus/laws.FnLyndonList", spec := "fnLyndonList", unfollowed := true, recurses := true, apart := false }
def FnLyndonListSaid : Prop := fnLyndonListRow.holds Try.pinned (OpenSpec.ofChange fnLyndonListSpec)

/-- ITS FALSE NEIGHBOUR: 'it returns false'. Refute it at one input. -/
def fnLyndonListWrong : ChangeSpec := { name := "fnLyndonList", fn := fun _ => fun
  | [d] => { results := [.lit (.bool false)], args := [d] }
  | _ => none }
def FnLyndonListWrongFalsely : Prop := fnLyndonListRow.holds Try.pinned (OpenSpec.ofChange fnLyndonListWrong)

/-- 'laws.FnSplit': WHATEVER THE INPUT: true; the input reads as it did. -/
def fnSplitSpec : ChangeSpec := { name := "fnSplit", fn := fun _ => fun
  | [d] => { results := [.lit (.bool true)], args := [d] }
  | _ => none }
def fnSplitRow : OpenClaim := { program := "ytdhmicpoigoleaa", sum := "2ed657ee430c7fea0527cd38f9fc6fc988b61cbd2abf8e66bc69a3ab6777c5b9", func := "loop.example/foxcalculus/laws.FnSplit", spec := "fnSplit", unfollowed := true, recurses := true, apart := false }
def FnSplitSaid : Prop := fnSplitRow.holds Try.pinned (OpenSpec.ofChange fnSplitSpec)

/-- ITS FALSE NEIGHBOUR: 'it returns false'. Refute it at one input. -/
def fnSplitWrong : ChangeSpec := { name := "fnSplit", fn := fun _ => fun
  | [d] => { results := [.lit (.bool false)], args := [d] }
  | _ => none }
def FnSplitWrongFalsely : Prop := fnSplitRow.holds Try.pinned (OpenSpec.ofChange fnSplitWrong)

/-- 'laws.FnFactors': WHATEVER THE INPUT: true; the input reads as it did. -/
def fnFactorsSpec : ChangeSpec := { name := "fnFactors", fn := fun _ => fun
  | [d] => { results := [.lit (.bool true)], args := [d] }
  | _ => none }
def fnFactorsRow : OpenClaim := { program := "ytdhmicpoigoleaa", sum := "2ed657ee430c7fea0527cd38f9fc6fc988b61cbd2abf8e66bc69a3ab6777c5b9", func := "loop.example/foxcalculus/laws.FnFactors", spec := "fnFactors", unfollowed := true, recurses := true, apart := false }
def FnFactorsSaid : Prop := fnFactorsRow.holds Try.pinned (OpenSpec.ofChange fnFactorsSpec)

/-- ITS FALSE NEIGHBOUR: 'it returns false'. Refute it at one input. -/
def fnFactorsWrong : ChangeSpec := { name := "fnFactors", fn := fun _ => fun
  | [d] => { results := [.lit (.bool false)], args := [d] }
  | _ => none }
def FnFactorsWrongFalsely : Prop := fnFactorsRow.holds Try.pinned (OpenSpec.ofChange fnFactorsWrong)

/-- 'laws.FnTurn': WHATEVER THE INPUT: true; the input reads as it did. -/
def fnTurnSpec : ChangeSpec := { name := "fnTurn", fn := fun _ => fun
  | [d] => { results := [.lit (.bool true)], args := [d] }
  | _ => none }
def fnTurnRow : OpenClaim := { program := "ytdhmicpoigoleaa", sum := "2ed657ee430c7fea0527cd38f9fc6fc988b61cbd2abf8e66bc69a3ab6777c5b9", func := "loop.example/foxcalculus/laws.FnTurn", spec := "fnTurn", unfollowed := true, recurses := true, apart := false }
def FnTurnSaid : Prop := fnTurnRow.holds Try.pinned (OpenSpec.ofChange fnTurnSpec)

/-- ITS FALSE NEIGHBOUR: 'it returns false'. Refute it at one input. -/
def fnTurnWrong : ChangeSpec := { name := "fnTurn", fn := fun _ => fun
  | [d] => { results := [.lit (.bool false)], args := [d] }
  | _ => none }
def FnTurnWrongFalsely : Prop := fnTurnRow.holds Try.pinned (OpenSpec.ofChange fnTurnWrong)

/- THE SECOND FORM. 'bulk': how many values and letters a reading holds, each counted each time it is reached (what is shared counts as often as it is met; a slice's spare places count too). A statement '..UptoSaid' is the law's where the arguments, and the package variables that the reading takes, are together of bulk at most 1048576: NARROWER than '..Said'. Prove '..Said' where nothing that the law and all that it calls make is longer than what came in: it says more and counts as full. Else prove '..UptoSaid'. A law counts once. -/
mutual
def uptoBulk {H : Type} : DataW H → Nat
  | .lit (.string bytes) => bytes.length + 1
  | .lit _ => 1
  | .nil => 1
  | .ptr d => uptoBulk d + 1
  | .slice elems spare => uptoBulkAll elems + uptoBulkAll spare + 1
  | .agg parts => uptoBulkAll parts + 1
  | .iface _ d => uptoBulk d + 1
  | .map entries => uptoBulkEntries entries + 1
  | .held _ => 1
def uptoBulkAll {H : Type} : List (DataW H) → Nat
  | [] => 0
  | d :: r => uptoBulk d + uptoBulkAll r
def uptoBulkEntries {H : Type} : List (Lit × DataW H) → Nat
  | [] => 0
  | x :: r => uptoBulkEntry x + uptoBulkEntries r
def uptoBulkEntry {H : Type} : Lit × DataW H → Nat
  | (.string bytes, d) => bytes.length + uptoBulk d + 1
  | (_, d) => uptoBulk d + 1
 end
def uptoSmall : (H : Type) → List (DataW H) → Bool := fun _ ds => decide (uptoBulkAll ds ≤ 1048576)
def OpenSpec.upto (s : _root_.Go.ChangeSpec) : _root_.Go.OpenSpec := { _root_.Go.OpenSpec.ofChange s with cond := some uptoSmall }

/-- 'laws.FnExactNestOf', WHERE WHAT IT READS IS OF BULK AT MOST 1048576: true; the input reads as it did. -/
def fnExactNestOfUptoRow : OpenClaim := { program := "ytdhmicpoigoleaa", sum := "2ed657ee430c7fea0527cd38f9fc6fc988b61cbd2abf8e66bc69a3ab6777c5b9", func := "loop.example/foxcalculus/laws.FnExactNestOf", spec := "fnExactNestOf", unfollowed := true, recurses := true, apart := false, narrowed := true }
def FnExactNestOfUptoSaid : Prop := fnExactNestOfUptoRow.holds Try.pinned (OpenSpec.upto fnExactNestOfSpec)

/-- 'laws.FnExactLyndonIn', WHERE WHAT IT READS IS OF BULK AT MOST 1048576: true; the input reads as it did. -/
def fnExactLyndonInUptoRow : OpenClaim := { program := "ytdhmicpoigoleaa", sum := "2ed657ee430c7fea0527cd38f9fc6fc988b61cbd2abf8e66bc69a3ab6777c5b9", func := "loop.example/foxcalculus/laws.FnExactLyndonIn", spec := "fnExactLyndonIn", unfollowed := true, recurses := true, apart := false, narrowed := true }
def FnExactLyndonInUptoSaid : Prop := fnExactLyndonInUptoRow.holds Try.pinned (OpenSpec.upto fnExactLyndonInSpec)

/-- 'laws.FnExactLyndonList', WHERE WHAT IT READS IS OF BULK AT MOST 1048576: true; the input reads as it did. -/
def fnExactLyndonListUptoRow : OpenClaim := { program := "ytdhmicpoigoleaa", sum := "2ed657ee430c7fea0527cd38f9fc6fc988b61cbd2abf8e66bc69a3ab6777c5b9", func := "loop.example/foxcalculus/laws.FnExactLyndonList", spec := "fnExactLyndonList", unfollowed := true, recurses := true, apart := false, narrowed := true }
def FnExactLyndonListUptoSaid : Prop := fnExactLyndonListUptoRow.holds Try.pinned (OpenSpec.upto fnExactLyndonListSpec)

/-- 'laws.FnExactLyndonCount', WHERE WHAT IT READS IS OF BULK AT MOST 1048576: true; the input reads as it did. -/
def fnExactLyndonCountUptoRow : OpenClaim := { program := "ytdhmicpoigoleaa", sum := "2ed657ee430c7fea0527cd38f9fc6fc988b61cbd2abf8e66bc69a3ab6777c5b9", func := "loop.example/foxcalculus/laws.FnExactLyndonCount", spec := "fnExactLyndonCount", apart := false, narrowed := true }
def FnExactLyndonCountUptoSaid : Prop := fnExactLyndonCountUptoRow.holds Try.pinned (OpenSpec.upto fnExactLyndonCountSpec)

/-- 'laws.FnExactLyndonSplit', WHERE WHAT IT READS IS OF BULK AT MOST 1048576: true; the input reads as it did. -/
def fnExactLyndonSplitUptoRow : OpenClaim := { program := "ytdhmicpoigoleaa", sum := "2ed657ee430c7fea0527cd38f9fc6fc988b61cbd2abf8e66bc69a3ab6777c5b9", func := "loop.example/foxcalculus/laws.FnExactLyndonSplit", spec := "fnExactLyndonSplit", unfollowed := true, recurses := true, apart := false, narrowed := true }
def FnExactLyndonSplitUptoSaid : Prop := fnExactLyndonSplitUptoRow.holds Try.pinned (OpenSpec.upto fnExactLyndonSplitSpec)

/-- 'laws.FnExactLyndonFactors', WHERE WHAT IT READS IS OF BULK AT MOST 1048576: true; the input reads as it did. -/
def fnExactLyndonFactorsUptoRow : OpenClaim := { program := "ytdhmicpoigoleaa", sum := "2ed657ee430c7fea0527cd38f9fc6fc988b61cbd2abf8e66bc69a3ab6777c5b9", func := "loop.example/foxcalculus/laws.FnExactLyndonFactors", spec := "fnExactLyndonFactors", unfollowed := true, recurses := true, apart := false, narrowed := true }
def FnExactLyndonFactorsUptoSaid : Prop := fnExactLyndonFactorsUptoRow.holds Try.pinned (OpenSpec.upto fnExactLyndonFactorsSpec)

/-- 'laws.FnExactLyndonBracket', WHERE WHAT IT READS IS OF BULK AT MOST 1048576: true; the input reads as it did. -/
def fnExactLyndonBracketUptoRow : OpenClaim := { program := "ytdhmicpoigoleaa", sum := "2ed657ee430c7fea0527cd38f9fc6fc988b61cbd2abf8e66bc69a3ab6777c5b9", func := "loop.example/foxcalculus/laws.FnExactLyndonBracket", spec := "fnExactLyndonBracket", unfollowed := true, recurses := true, apart := false, narrowed := true }
def FnExactLyndonBracketUptoSaid : Prop := fnExactLyndonBracketUptoRow.holds Try.pinned (OpenSpec.upto fnExactLyndonBracketSpec)

/-- 'laws.FnExactLyndonTurn', WHERE WHAT IT READS IS OF BULK AT MOST 1048576: true; the input reads as it did. -/
def fnExactLyndonTurnUptoRow : OpenClaim := { program := "ytdhmicpoigoleaa", sum := "2ed657ee430c7fea0527cd38f9fc6fc988b61cbd2abf8e66bc69a3ab6777c5b9", func := "loop.example/foxcalculus/laws.FnExactLyndonTurn", spec := "fnExactLyndonTurn", unfollowed := true, recurses := true, apart := false, narrowed := true }
def FnExactLyndonTurnUptoSaid : Prop := fnExactLyndonTurnUptoRow.holds Try.pinned (OpenSpec.upto fnExactLyndonTurnSpec)

/-- 'laws.FnLyndonCount', WHERE WHAT IT READS IS OF BULK AT MOST 1048576: true; the input reads as it did. -/
def fnLyndonCountUptoRow : OpenClaim := { program := "ytdhmicpoigoleaa", sum := "2ed657ee430c7fea0527cd38f9fc6fc988b61cbd2abf8e66bc69a3ab6777c5b9", func := "loop.example/foxcalculus/laws.FnLyndonCount", spec := "fnLyndonCount", apart := false, narrowed := true }
def FnLyndonCountUptoSaid : Prop := fnLyndonCountUptoRow.holds Try.pinned (OpenSpec.upto fnLyndonCountSpec)

/-- 'laws.FnLyndon', WHERE WHAT IT READS IS OF BULK AT MOST 1048576: true; the input reads as it did. -/
def fnLyndonUptoRow : OpenClaim := { program := "ytdhmicpoigoleaa", sum := "2ed657ee430c7fea0527cd38f9fc6fc988b61cbd2abf8e66bc69a3ab6777c5b9", func := "loop.example/foxcalculus/laws.FnLyndon", spec := "fnLyndon", unfollowed := true, recurses := true, apart := false, narrowed := true }
def FnLyndonUptoSaid : Prop := fnLyndonUptoRow.holds Try.pinned (OpenSpec.upto fnLyndonSpec)

/-- 'laws.FnLyndonList', WHERE WHAT IT READS IS OF BULK AT MOST 1048576: true; the input reads as it did. -/
def fnLyndonListUptoRow : OpenClaim := { program := "ytdhmicpoigoleaa", sum := "2ed657ee430c7fea0527cd38f9fc6fc988b61cbd2abf8e66bc69a3ab6777c5b9", func := "loop.example/foxcalculus/laws.FnLyndonList", spec := "fnLyndonList", unfollowed := true, recurses := true, apart := false, narrowed := true }
def FnLyndonListUptoSaid : Prop := fnLyndonListUptoRow.holds Try.pinned (OpenSpec.upto fnLyndonListSpec)

/-- 'laws.FnSplit', WHERE WHAT IT READS IS OF BULK AT MOST 1048576: true; the input reads as it did. -/
def fnSplitUptoRow : OpenClaim := { program := "ytdhmicpoigoleaa", sum := "2ed657ee430c7fea0527cd38f9fc6fc988b61cbd2abf8e66bc69a3ab6777c5b9", func := "loop.example/foxcalculus/laws.FnSplit", spec := "fnSplit", unfollowed := true, recurses := true, apart := false, narrowed := true }
def FnSplitUptoSaid : Prop := fnSplitUptoRow.holds Try.pinned (OpenSpec.upto fnSplitSpec)

/-- 'laws.FnFactors', WHERE WHAT IT READS IS OF BULK AT MOST 1048576: true; the input reads as it did. -/
def fnFactorsUptoRow : OpenClaim := { program := "ytdhmicpoigoleaa", sum := "2ed657ee430c7fea0527cd38f9fc6fc988b61cbd2abf8e66bc69a3ab6777c5b9", func := "loop.example/foxcalculus/laws.FnFactors", spec := "fnFactors", unfollowed := true, recurses := true, apart := false, narrowed := true }
def FnFactorsUptoSaid : Prop := fnFactorsUptoRow.holds Try.pinned (OpenSpec.upto fnFactorsSpec)

/-- 'laws.FnTurn', WHERE WHAT IT READS IS OF BULK AT MOST 1048576: true; the input reads as it did. -/
def fnTurnUptoRow : OpenClaim := { program := "ytdhmicpoigoleaa", sum := "2ed657ee430c7fea0527cd38f9fc6fc988b61cbd2abf8e66bc69a3ab6777c5b9", func := "loop.example/foxcalculus/laws.FnTurn", spec := "fnTurn", unfollowed := true, recurses := true, apart := false, narrowed := true }
def FnTurnUptoSaid : Prop := fnTurnUptoRow.holds Try.pinned (OpenSpec.upto fnTurnSpec)

end Rows
end Go.Proofs.Ytdhmicpoigoleaa

/-
  No cell of these rows narrows 'for every input' (looked for: loops, veiled, ifaces, maps, wideKeys, modest, calm, conditions, laid).
  DERIVED. THE GIVEN ROWS OF THIS SEAT. 12 by the template 'for every input the law returns true; each argument reads behind the call as it read before'; 0 by the template 'total and deterministic' (their statements: YtidmlppbmcphbaaTotals.lean).
  GIVEN WITH THE SEED: the statements are not yours to turn. If you find one false, say at which input.
  Laid BY PROGRAM, IN A SANDBOX (cutbox-rows.mjs): the forced cells as the released guide's own fill.sh prints them over the translation 630fda72369fe3bd… (all of the seat's roots in one cut). By AI agents, Wed Nov 11 2026. No macro, syntax, notation, axiom, sorry.
-/
import Derived.Test.YtidmlppbmcphbaaChecked
import GoSem.Claim
import GoSem.ClaimJoined
import GoSem.ClaimMapViews
import Derived.JoinedTies
import Derived.KernelRfl
namespace Go.Proofs.Ytidmlppbmcphbaa
/- THE CELL 'sum', in the pinned program and in every row, IS THE sha256 OF THE DUMP (.gsa) THAT YtidmlppbmcphbaaProg.lean LOADS. Nothing in Lean hashes anything: it is a label: what it is worth is what the hold of that sum in a sandbox is worth. -/
noncomputable def Try.pinned : Pinned := { name := "ytidmlppbmcphbaa", sum := "630fda72369fe3bd34e319648aabcd41c5403de05e616e87cb1a20f7984072e8", checked := Try.checked }
namespace Rows
def none {H : Type} : Left H := { results := [], args := [] }

/-- 'laws.FnExactSumIn': WHATEVER THE INPUT: true; the input reads as it did. -/
def fnExactSumInSpec : ChangeSpec := { name := "fnExactSumIn", fn := fun _ => fun
  | [d] => { results := [.lit (.bool true)], args := [d] }
  | _ => none }
def fnExactSumInRow : OpenClaim := { program := "ytidmlppbmcphbaa", sum := "630fda72369fe3bd34e319648aabcd41c5403de05e616e87cb1a20f7984072e8", func := "loop.example/foxcalculus/laws.FnExactSumIn", spec := "fnExactSumIn", inPlace := ["internal/bytealg.abigen_runtime_cmpstring"], unfollowed := true, recurses := true, apart := false }
def FnExactSumInSaid : Prop := fnExactSumInRow.holds Try.pinned (OpenSpec.ofChange fnExactSumInSpec)

/-- ITS FALSE NEIGHBOUR: 'it returns false'. Refute it at one input. -/
def fnExactSumInWrong : ChangeSpec := { name := "fnExactSumIn", fn := fun _ => fun
  | [d] => { results := [.lit (.bool false)], args := [d] }
  | _ => none }
def FnExactSumInWrongFalsely : Prop := fnExactSumInRow.holds Try.pinned (OpenSpec.ofChange fnExactSumInWrong)

/-- 'laws.FnExactSumOf': WHATEVER THE INPUT: true; the input reads as it did. -/
def fnExactSumOfSpec : ChangeSpec := { name := "fnExactSumOf", fn := fun _ => fun
  | [d] => { results := [.lit (.bool true)], args := [d] }
  | _ => none }
def fnExactSumOfRow : OpenClaim := { program := "ytidmlppbmcphbaa", sum := "630fda72369fe3bd34e319648aabcd41c5403de05e616e87cb1a20f7984072e8", func := "loop.example/foxcalculus/laws.FnExactSumOf", spec := "fnExactSumOf", inPlace := ["internal/bytealg.abigen_runtime_cmpstring"], unfollowed := true, recurses := true, apart := false }
def FnExactSumOfSaid : Prop := fnExactSumOfRow.holds Try.pinned (OpenSpec.ofChange fnExactSumOfSpec)

/-- ITS FALSE NEIGHBOUR: 'it returns false'. Refute it at one input. -/
def fnExactSumOfWrong : ChangeSpec := { name := "fnExactSumOf", fn := fun _ => fun
  | [d] => { results := [.lit (.bool false)], args := [d] }
  | _ => none }
def FnExactSumOfWrongFalsely : Prop := fnExactSumOfRow.holds Try.pinned (OpenSpec.ofChange fnExactSumOfWrong)

/-- 'laws.FnExactSumAdd': WHATEVER THE INPUT: true; the input reads as it did. -/
def fnExactSumAddSpec : ChangeSpec := { name := "fnExactSumAdd", fn := fun _ => fun
  | [d1, d2] => { results := [.lit (.bool true)], args := [d1, d2] }
  | _ => none }
def fnExactSumAddRow : OpenClaim := { program := "ytidmlppbmcphbaa", sum := "630fda72369fe3bd34e319648aabcd41c5403de05e616e87cb1a20f7984072e8", func := "loop.example/foxcalculus/laws.FnExactSumAdd", spec := "fnExactSumAdd", inPlace := ["internal/bytealg.abigen_runtime_cmpstring"], unfollowed := true, recurses := true, apart := false }
def FnExactSumAddSaid : Prop := fnExactSumAddRow.holds Try.pinned (OpenSpec.ofChange fnExactSumAddSpec)

/-- ITS FALSE NEIGHBOUR: 'it returns false'. Refute it at one input. -/
def fnExactSumAddWrong : ChangeSpec := { name := "fnExactSumAdd", fn := fun _ => fun
  | [d1, d2] => { results := [.lit (.bool false)], args := [d1, d2] }
  | _ => none }
def FnExactSumAddWrongFalsely : Prop := fnExactSumAddRow.holds Try.pinned (OpenSpec.ofChange fnExactSumAddWrong)

/-- 'laws.FnExactSumTimes': WHATEVER THE INPUT: true; the input reads as it did. -/
def fnExactSumTimesSpec : ChangeSpec := { name := "fnExactSumTimes", fn := fun _ => fun
  | [d1, d2] => { results := [.lit (.bool true)], args := [d1, d2] }
  | _ => none }
def fnExactSumTimesRow : OpenClaim := { program := "ytidmlppbmcphbaa", sum := "630fda72369fe3bd34e319648aabcd41c5403de05e616e87cb1a20f7984072e8", func := "loop.example/foxcalculus/laws.FnExactSumTimes", spec := "fnExactSumTimes", inPlace := ["internal/bytealg.abigen_runtime_cmpstring"], unfollowed := true, recurses := true, apart := false }
def FnExactSumTimesSaid : Prop := fnExactSumTimesRow.holds Try.pinned (OpenSpec.ofChange fnExactSumTimesSpec)

/-- ITS FALSE NEIGHBOUR: 'it returns false'. Refute it at one input. -/
def fnExactSumTimesWrong : ChangeSpec := { name := "fnExactSumTimes", fn := fun _ => fun
  | [d1, d2] => { results := [.lit (.bool false)], args := [d1, d2] }
  | _ => none }
def FnExactSumTimesWrongFalsely : Prop := fnExactSumTimesRow.holds Try.pinned (OpenSpec.ofChange fnExactSumTimesWrong)

/-- 'laws.FnExactSumTurned': WHATEVER THE INPUT: true; the input reads as it did. -/
def fnExactSumTurnedSpec : ChangeSpec := { name := "fnExactSumTurned", fn := fun _ => fun
  | [d] => { results := [.lit (.bool true)], args := [d] }
  | _ => none }
def fnExactSumTurnedRow : OpenClaim := { program := "ytidmlppbmcphbaa", sum := "630fda72369fe3bd34e319648aabcd41c5403de05e616e87cb1a20f7984072e8", func := "loop.example/foxcalculus/laws.FnExactSumTurned", spec := "fnExactSumTurned", inPlace := ["internal/bytealg.abigen_runtime_cmpstring"], unfollowed := true, recurses := true, apart := false }
def FnExactSumTurnedSaid : Prop := fnExactSumTurnedRow.holds Try.pinned (OpenSpec.ofChange fnExactSumTurnedSpec)

/-- ITS FALSE NEIGHBOUR: 'it returns false'. Refute it at one input. -/
def fnExactSumTurnedWrong : ChangeSpec := { name := "fnExactSumTurned", fn := fun _ => fun
  | [d] => { results := [.lit (.bool false)], args := [d] }
  | _ => none }
def FnExactSumTurnedWrongFalsely : Prop := fnExactSumTurnedRow.holds Try.pinned (OpenSpec.ofChange fnExactSumTurnedWrong)

/-- 'laws.FnExactSumPlain': WHATEVER THE INPUT: true; the input reads as it did. -/
def fnExactSumPlainSpec : ChangeSpec := { name := "fnExactSumPlain", fn := fun _ => fun
  | [d] => { results := [.lit (.bool true)], args := [d] }
  | _ => none }
def fnExactSumPlainRow : OpenClaim := { program := "ytidmlppbmcphbaa", sum := "630fda72369fe3bd34e319648aabcd41c5403de05e616e87cb1a20f7984072e8", func := "loop.example/foxcalculus/laws.FnExactSumPlain", spec := "fnExactSumPlain", inPlace := ["internal/bytealg.abigen_runtime_cmpstring"], unfollowed := true, recurses := true, apart := false }
def FnExactSumPlainSaid : Prop := fnExactSumPlainRow.holds Try.pinned (OpenSpec.ofChange fnExactSumPlainSpec)

/-- ITS FALSE NEIGHBOUR: 'it returns false'. Refute it at one input. -/
def fnExactSumPlainWrong : ChangeSpec := { name := "fnExactSumPlain", fn := fun _ => fun
  | [d] => { results := [.lit (.bool false)], args := [d] }
  | _ => none }
def FnExactSumPlainWrongFalsely : Prop := fnExactSumPlainRow.holds Try.pinned (OpenSpec.ofChange fnExactSumPlainWrong)

/-- 'laws.FnExactSumPut': WHATEVER THE INPUT: true; the input reads as it did. -/
def fnExactSumPutSpec : ChangeSpec := { name := "fnExactSumPut", fn := fun _ => fun
  | [d1, d2] => { results := [.lit (.bool true)], args := [d1, d2] }
  | _ => none }
def fnExactSumPutRow : OpenClaim := { program := "ytidmlppbmcphbaa", sum := "630fda72369fe3bd34e319648aabcd41c5403de05e616e87cb1a20f7984072e8", func := "loop.example/foxcalculus/laws.FnExactSumPut", spec := "fnExactSumPut", inPlace := ["internal/bytealg.abigen_runtime_cmpstring"], unfollowed := true, recurses := true, apart := false }
def FnExactSumPutSaid : Prop := fnExactSumPutRow.holds Try.pinned (OpenSpec.ofChange fnExactSumPutSpec)

/-- ITS FALSE NEIGHBOUR: 'it returns false'. Refute it at one input. -/
def fnExactSumPutWrong : ChangeSpec := { name := "fnExactSumPut", fn := fun _ => fun
  | [d1, d2] => { results := [.lit (.bool false)], args := [d1, d2] }
  | _ => none }
def FnExactSumPutWrongFalsely : Prop := fnExactSumPutRow.holds Try.pinned (OpenSpec.ofChange fnExactSumPutWrong)

/-- 'laws.FnExactFoxOf': WHATEVER THE INPUT: true; the input reads as it did. -/
def fnExactFoxOfSpec : ChangeSpec := { name := "fnExactFoxOf", fn := fun _ => fun
  | [d1, d2] => { results := [.lit (.bool true)], args := [d1, d2] }
  | _ => none }
def fnExactFoxOfRow : OpenClaim := { program := "ytidmlppbmcphbaa", sum := "630fda72369fe3bd34e319648aabcd41c5403de05e616e87cb1a20f7984072e8", func := "loop.example/foxcalculus/laws.FnExactFoxOf", spec := "fnExactFoxOf", inPlace := ["internal/bytealg.abigen_runtime_cmpstring"], unfollowed := true, recurses := true, apart := false }
def FnExactFoxOfSaid : Prop := fnExactFoxOfRow.holds Try.pinned (OpenSpec.ofChange fnExactFoxOfSpec)

/-- ITS FALSE NEIGHBOUR: 'it returns false'. Refute it at one input. -/
def fnExactFoxOfWrong : ChangeSpec := { name := "fnExactFoxOf", fn := fun _ => fun
  | [d1, d2] => { results := [.lit (.bool false)], args := [d1, d2] }
  | _ => none }
def FnExactFoxOfWrongFalsely : Prop := fnExactFoxOfRow.holds Try.pinned (OpenSpec.ofChange fnExactFoxOfWrong)

/-- 'laws.FnExactFoxSum': WHATEVER THE INPUT: true; the input reads as it did. -/
def fnExactFoxSumSpec : ChangeSpec := { name := "fnExactFoxSum", fn := fun _ => fun
  | [d1, d2] => { results := [.lit (.bool true)], args := [d1, d2] }
  | _ => none }
def fnExactFoxSumRow : OpenClaim := { program := "ytidmlppbmcphbaa", sum := "630fda72369fe3bd34e319648aabcd41c5403de05e616e87cb1a20f7984072e8", func := "loop.example/foxcalculus/laws.FnExactFoxSum", spec := "fnExactFoxSum", inPlace := ["internal/bytealg.abigen_runtime_cmpstring"], unfollowed := true, recurses := true, apart := false }
def FnExactFoxSumSaid : Prop := fnExactFoxSumRow.holds Try.pinned (OpenSpec.ofChange fnExactFoxSumSpec)

/-- ITS FALSE NEIGHBOUR: 'it returns false'. Refute it at one input. -/
def fnExactFoxSumWrong : ChangeSpec := { name := "fnExactFoxSum", fn := fun _ => fun
  | [d1, d2] => { results := [.lit (.bool false)], args := [d1, d2] }
  | _ => none }
def FnExactFoxSumWrongFalsely : Prop := fnExactFoxSumRow.holds Try.pinned (OpenSpec.ofChange fnExactFoxSumWrong)

/-- 'laws.FnExactFoxBack': WHATEVER THE INPUT: true; the input reads as it did. -/
def fnExactFoxBackSpec : ChangeSpec := { name := "fnExactFoxBack", fn := fun _ => fun
  | [d] => { results := [.lit (.bool true)], args := [d] }
  | _ => none }
def fnExactFoxBackRow : OpenClaim := { program := "ytidmlppbmcphbaa", sum := "630fda72369fe3bd34e319648aabcd41c5403de05e616e87cb1a20f7984072e8", func := "loop.example/foxcalculus/laws.FnExactFoxBack", spec := "fnExactFoxBack", inPlace := ["internal/bytealg.abigen_runtime_cmpstring"], unfollowed := true, recurses := true, apart := false }
def FnExactFoxBackSaid : Prop := fnExactFoxBackRow.holds Try.pinned (OpenSpec.ofChange fnExactFoxBackSpec)

/-- ITS FALSE NEIGHBOUR: 'it returns false'. Refute it at one input. -/
def fnExactFoxBackWrong : ChangeSpec := { name := "fnExactFoxBack", fn := fun _ => fun
  | [d] => { results := [.lit (.bool false)], args := [d] }
  | _ => none }
def FnExactFoxBackWrongFalsely : Prop := fnExactFoxBackRow.holds Try.pinned (OpenSpec.ofChange fnExactFoxBackWrong)

/-- 'laws.FnExactFoxAll': WHATEVER THE INPUT: true; the input reads as it did. -/
def fnExactFoxAllSpec : ChangeSpec := { name := "fnExactFoxAll", fn := fun _ => fun
  | [d] => { results := [.lit (.bool true)], args := [d] }
  | _ => none }
def fnExactFoxAllRow : OpenClaim := { program := "ytidmlppbmcphbaa", sum := "630fda72369fe3bd34e319648aabcd41c5403de05e616e87cb1a20f7984072e8", func := "loop.example/foxcalculus/laws.FnExactFoxAll", spec := "fnExactFoxAll", inPlace := ["internal/bytealg.abigen_runtime_cmpstring"], unfollowed := true, recurses := true, apart := false }
def FnExactFoxAllSaid : Prop := fnExactFoxAllRow.holds Try.pinned (OpenSpec.ofChange fnExactFoxAllSpec)

/-- ITS FALSE NEIGHBOUR: 'it returns false'. Refute it at one input. -/
def fnExactFoxAllWrong : ChangeSpec := { name := "fnExactFoxAll", fn := fun _ => fun
  | [d] => { results := [.lit (.bool false)], args := [d] }
  | _ => none }
def FnExactFoxAllWrongFalsely : Prop := fnExactFoxAllRow.holds Try.pinned (OpenSpec.ofChange fnExactFoxAllWrong)

/-- 'laws.FnExactFoxTwice': WHATEVER THE INPUT: true; the input reads as it did. -/
def fnExactFoxTwiceSpec : ChangeSpec := { name := "fnExactFoxTwice", fn := fun _ => fun
  | [d1, d2, d3] => { results := [.lit (.bool true)], args := [d1, d2, d3] }
  | _ => none }
def fnExactFoxTwiceRow : OpenClaim := { program := "ytidmlppbmcphbaa", sum := "630fda72369fe3bd34e319648aabcd41c5403de05e616e87cb1a20f7984072e8", func := "loop.example/foxcalculus/laws.FnExactFoxTwice", spec := "fnExactFoxTwice", inPlace := ["internal/bytealg.abigen_runtime_cmpstring"], unfollowed := true, recurses := true, apart := false }
def FnExactFoxTwiceSaid : Prop := fnExactFoxTwiceRow.holds Try.pinned (OpenSpec.ofChange fnExactFoxTwiceSpec)

/-- ITS FALSE NEIGHBOUR: 'it returns false'. Refute it at one input. -/
def fnExactFoxTwiceWrong : ChangeSpec := { name := "fnExactFoxTwice", fn := fun _ => fun
  | [d1, d2, d3] => { results := [.lit (.bool false)], args := [d1, d2, d3] }
  | _ => none }
def FnExactFoxTwiceWrongFalsely : Prop := fnExactFoxTwiceRow.holds Try.pinned (OpenSpec.ofChange fnExactFoxTwiceWrong)

/- THE SECOND FORM. 'bulk': how many values and letters a reading holds, each counted each time it is reached (what is shared counts as often as it is met; a slice's spare places count too). A statement '..UptoSaid' is the law's where the arguments, and the package variables that the reading takes, are together of bulk at most 1048576: NARROWER than '..Said'. Prove '..Said' where nothing that the law and all that it calls make is longer than what came in: it says more and counts as full. Else prove '..UptoSaid'. A law counts once. -/
mutual
def uptoBulk {H : Type} : DataW H → Nat
  | .lit (.string bytes) => bytes.length + 1
  | .lit _ => 1
  | .nil => 1
  | .ptr d => uptoBulk d + 1
  | .slice elems spare => uptoBulkAll elems + uptoBulkAll spare + 1
  | .agg parts => uptoBulkAll parts + 1
  | .iface _ d => uptoBulk d + 1
  | .map entries => uptoBulkEntries entries + 1
  | .held _ => 1
def uptoBulkAll {H : Type} : List (DataW H) → Nat
  | [] => 0
  | d :: r => uptoBulk d + uptoBulkAll r
def uptoBulkEntries {H : Type} : List (Lit × DataW H) → Nat
  | [] => 0
  | x :: r => uptoBulkEntry x + uptoBulkEntries r
def uptoBulkEntry {H : Type} : Lit × DataW H → Nat
  | (.string bytes, d) => bytes.length + uptoBulk d + 1
  | (_, d) => uptoBulk d + 1
 end
def uptoSmall : (H : Type) → List (DataW H) → Bool := fun _ ds => decide (uptoBulkAll ds ≤ 1048576)
def OpenSpec.upto (s : _root_.Go.ChangeSpec) : _root_.Go.OpenSpec := { _root_.Go.OpenSpec.ofChange s with cond := some uptoSmall }

/-- 'laws.FnExactSumIn', WHERE WHAT IT READS IS OF BULK AT MOST 1048576: true; the input reads as it did. -/
def fnExactSumInUptoRow : OpenClaim := { program := "ytidmlppbmcphbaa", sum := "630fda72369fe3bd34e319648aabcd41c5403de05e616e87cb1a20f7984072e8", func := "loop.example/foxcalculus/laws.FnExactSumIn", spec := "fnExactSumIn", inPlace := ["internal/bytealg.abigen_runtime_cmpstring"], unfollowed := true, recurses := true, apart := false, narrowed := true }
def FnExactSumInUptoSaid : Prop := fnExactSumInUptoRow.holds Try.pinned (OpenSpec.upto fnExactSumInSpec)

/-- 'laws.FnExactSumOf', WHERE WHAT IT READS IS OF BULK AT MOST 1048576: true; the input reads as it did. -/
def fnExactSumOfUptoRow : OpenClaim := { program := "ytidmlppbmcphbaa", sum := "630fda72369fe3bd34e319648aabcd41c5403de05e616e87cb1a20f7984072e8", func := "loop.example/foxcalculus/laws.FnExactSumOf", spec := "fnExactSumOf", inPlace := ["internal/bytealg.abigen_runtime_cmpstring"], unfollowed := true, recurses := true, apart := false, narrowed := true }
def FnExactSumOfUptoSaid : Prop := fnExactSumOfUptoRow.holds Try.pinned (OpenSpec.upto fnExactSumOfSpec)

/-- 'laws.FnExactSumAdd', WHERE WHAT IT READS IS OF BULK AT MOST 1048576: true; the input reads as it did. -/
def fnExactSumAddUptoRow : OpenClaim := { program := "ytidmlppbmcphbaa", sum := "630fda72369fe3bd34e319648aabcd41c5403de05e616e87cb1a20f7984072e8", func := "loop.example/foxcalculus/laws.FnExactSumAdd", spec := "fnExactSumAdd", inPlace := ["internal/bytealg.abigen_runtime_cmpstring"], unfollowed := true, recurses := true, apart := false, narrowed := true }
def FnExactSumAddUptoSaid : Prop := fnExactSumAddUptoRow.holds Try.pinned (OpenSpec.upto fnExactSumAddSpec)

/-- 'laws.FnExactSumTimes', WHERE WHAT IT READS IS OF BULK AT MOST 1048576: true; the input reads as it did. -/
def fnExactSumTimesUptoRow : OpenClaim := { program := "ytidmlppbmcphbaa", sum := "630fda72369fe3bd34e319648aabcd41c5403de05e616e87cb1a20f7984072e8", func := "loop.example/foxcalculus/laws.FnExactSumTimes", spec := "fnExactSumTimes", inPlace := ["internal/bytealg.abigen_runtime_cmpstring"], unfollowed := true, recurses := true, apart := false, narrowed := true }
def FnExactSumTimesUptoSaid : Prop := fnExactSumTimesUptoRow.holds Try.pinned (OpenSpec.upto fnExactSumTimesSpec)

/-- 'laws.FnExactSumTurned', WHERE WHAT IT READS IS OF BULK AT MOST 1048576: true; the input reads as it did. -/
def fnExactSumTurnedUptoRow : OpenClaim := { program := "ytidmlppbmcphbaa", sum := "630fda72369fe3bd34e319648aabcd41c5403de05e616e87cb1a20f7984072e8", func := "loop.example/foxcalculus/laws.FnExactSumTurned", spec := "fnExactSumTurned", inPlace := ["internal/bytealg.abigen_runtime_cmpstring"], unfollowed := true, recurses := true, apart := false, narrowed := true }
def FnExactSumTurnedUptoSaid : Prop := fnExactSumTurnedUptoRow.holds Try.pinned (OpenSpec.upto fnExactSumTurnedSpec)

/-- 'laws.FnExactSumPlain', WHERE WHAT IT READS IS OF BULK AT MOST 1048576: true; the input reads as it did. -/
def fnExactSumPlainUptoRow : OpenClaim := { program := "ytidmlppbmcphbaa", sum := "630fda72369fe3bd34e319648aabcd41c5403de05e616e87cb1a20f7984072e8", func := "loop.example/foxcalculus/laws.FnExactSumPlain", spec := "fnExactSumPlain", inPlace := ["internal/bytealg.abigen_runtime_cmpstring"], unfollowed := true, recurses := true, apart := false, narrowed := true }
def FnExactSumPlainUptoSaid : Prop := fnExactSumPlainUptoRow.holds Try.pinned (OpenSpec.upto fnExactSumPlainSpec)

/-- 'laws.FnExactSumPut', WHERE WHAT IT READS IS OF BULK AT MOST 1048576: true; the input reads as it did. -/
def fnExactSumPutUptoRow : OpenClaim := { program := "ytidmlppbmcphbaa", sum := "630fda72369fe3bd34e319648aabcd41c5403de05e616e87cb1a20f7984072e8", func := "loop.example/foxcalculus/laws.FnExactSumPut", spec := "fnExactSumPut", inPlace := ["internal/bytealg.abigen_runtime_cmpstring"], unfollowed := true, recurses := true, apart := false, narrowed := true }
def FnExactSumPutUptoSaid : Prop := fnExactSumPutUptoRow.holds Try.pinned (OpenSpec.upto fnExactSumPutSpec)

/-- 'laws.FnExactFoxOf', WHERE WHAT IT READS IS OF BULK AT MOST 1048576: true; the input reads as it did. -/
def fnExactFoxOfUptoRow : OpenClaim := { program := "ytidmlppbmcphbaa", sum := "630fda72369fe3bd34e319648aabcd41c5403de05e616e87cb1a20f7984072e8", func := "loop.example/foxcalculus/laws.FnExactFoxOf", spec := "fnExactFoxOf", inPlace := ["internal/bytealg.abigen_runtime_cmpstring"], unfollowed := true, recurses := true, apart := false, narrowed := true }
def FnExactFoxOfUptoSaid : Prop := fnExactFoxOfUptoRow.holds Try.pinned (OpenSpec.upto fnExactFoxOfSpec)

/-- 'laws.FnExactFoxSum', WHERE WHAT IT READS IS OF BULK AT MOST 1048576: true; the input reads as it did. -/
def fnExactFoxSumUptoRow : OpenClaim := { program := "ytidmlppbmcphbaa", sum := "630fda72369fe3bd34e319648aabcd41c5403de05e616e87cb1a20f7984072e8", func := "loop.example/foxcalculus/laws.FnExactFoxSum", spec := "fnExactFoxSum", inPlace := ["internal/bytealg.abigen_runtime_cmpstring"], unfollowed := true, recurses := true, apart := false, narrowed := true }
def FnExactFoxSumUptoSaid : Prop := fnExactFoxSumUptoRow.holds Try.pinned (OpenSpec.upto fnExactFoxSumSpec)

/-- 'laws.FnExactFoxBack', WHERE WHAT IT READS IS OF BULK AT MOST 1048576: true; the input reads as it did. -/
def fnExactFoxBackUptoRow : OpenClaim := { program := "ytidmlppbmcphbaa", sum := "630fda72369fe3bd34e319648aabcd41c5403de05e616e87cb1a20f7984072e8", func := "loop.example/foxcalculus/laws.FnExactFoxBack", spec := "fnExactFoxBack", inPlace := ["internal/bytealg.abigen_runtime_cmpstring"], unfollowed := true, recurses := true, apart := false, narrowed := true }
def FnExactFoxBackUptoSaid : Prop := fnExactFoxBackUptoRow.holds Try.pinned (OpenSpec.upto fnExactFoxBackSpec)

/-- 'laws.FnExactFoxAll', WHERE WHAT IT READS IS OF BULK AT MOST 1048576: true; the input reads as it did. -/
def fnExactFoxAllUptoRow : OpenClaim := { program := "ytidmlppbmcphbaa", sum := "630fda72369fe3bd34e319648aabcd41c5403de05e616e87cb1a20f7984072e8", func := "loop.example/foxcalculus/laws.FnExactFoxAll", spec := "fnExactFoxAll", inPlace := ["internal/bytealg.abigen_runtime_cmpstring"], unfollowed := true, recurses := true, apart := false, narrowed := true }
def FnExactFoxAllUptoSaid : Prop := fnExactFoxAllUptoRow.holds Try.pinned (OpenSpec.upto fnExactFoxAllSpec)

/-- 'laws.FnExactFoxTwice', WHERE WHAT IT READS IS OF BULK AT MOST 1048576: true; the input reads as it did. -/
def fnExactFoxTwiceUptoRow : OpenClaim := { program := "ytidmlppbmcphbaa", sum := "630fda72369fe3bd34e319648aabcd41c5403de05e616e87cb1a20f7984072e8", func := "loop.example/foxcalculus/laws.FnExactFoxTwice", spec := "fnExactFoxTwice", inPlace := ["internal/bytealg.abigen_runtime_cmpstring"], unfollowed := true, recurses := true, apart := false, narrowed := true }
def FnExactFoxTwiceUptoSaid : Prop := fnExactFoxTwiceUptoRow.holds Try.pinned (OpenSpec.upto fnExactFoxTwiceSpec)

end Rows
end Go.Proofs.Ytidmlppbmcphbaa

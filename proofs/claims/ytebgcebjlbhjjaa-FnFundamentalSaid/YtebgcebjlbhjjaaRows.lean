/-
  No cell of these rows narrows 'for every input' (looked for: loops, veiled, ifaces, maps, wideKeys, modest, calm, conditions, laid).
  DERIVED. THE GIVEN ROWS OF THIS SEAT. 12 by the template 'for every input the law returns true; each argument reads behind the call as it read before'; 0 by the template 'total and deterministic' (their statements: YtebgcebjlbhjjaaTotals.lean).
  GIVEN WITH THE SEED: the statements are not yours to turn. If you find one false, say at which input.
  Laid BY PROGRAM, IN A SANDBOX (cutbox-rows.mjs): the forced cells as the released guide's own fill.sh prints them over the translation 4ca045de5b15ef9d… (all of the seat's roots in one cut). By AI agents, Wed Nov 11 2026. No macro, syntax, notation, axiom, sorry.
-/
import Derived.Test.YtebgcebjlbhjjaaChecked
import GoSem.Claim
import GoSem.ClaimJoined
import GoSem.ClaimMapViews
import Derived.JoinedTies
import Derived.KernelRfl
namespace Go.Proofs.Ytebgcebjlbhjjaa
/- THE CELL 'sum', in the pinned program and in every row, IS THE sha256 OF THE DUMP (.gsa) THAT YtebgcebjlbhjjaaProg.lean LOADS. Nothing in Lean hashes anything: it is a label: what it is worth is what the hold of that sum in a sandbox is worth. -/
noncomputable def Try.pinned : Pinned := { name := "ytebgcebjlbhjjaa", sum := "4ca045de5b15ef9d669b8d6ca37130edb3844203ffae5f496f793fc6a64f18dd", checked := Try.checked }
namespace Rows
def none {H : Type} : Left H := { results := [], args := [] }

/-- 'laws.FnSum': WHATEVER THE INPUT: true; the input reads as it did. -/
def fnSumSpec : ChangeSpec := { name := "fnSum", fn := fun _ => fun
  | [d] => { results := [.lit (.bool true)], args := [d] }
  | _ => none }
def fnSumRow : OpenClaim := { program := "ytebgcebjlbhjjaa", sum := "4ca045de5b15ef9d669b8d6ca37130edb3844203ffae5f496f793fc6a64f18dd", func := "loop.example/foxcalculus/laws.FnSum", spec := "fnSum", inPlace := ["internal/bytealg.abigen_runtime_cmpstring"], unfollowed := true, recurses := true, apart := false }
def FnSumSaid : Prop := fnSumRow.holds Try.pinned (OpenSpec.ofChange fnSumSpec)

/-- ITS FALSE NEIGHBOUR: 'it returns false'. Refute it at one input. -/
def fnSumWrong : ChangeSpec := { name := "fnSum", fn := fun _ => fun
  | [d] => { results := [.lit (.bool false)], args := [d] }
  | _ => none }
def FnSumWrongFalsely : Prop := fnSumRow.holds Try.pinned (OpenSpec.ofChange fnSumWrong)

/-- 'laws.FnSumOf': WHATEVER THE INPUT: true; the input reads as it did. -/
def fnSumOfSpec : ChangeSpec := { name := "fnSumOf", fn := fun _ => fun
  | [d] => { results := [.lit (.bool true)], args := [d] }
  | _ => none }
def fnSumOfRow : OpenClaim := { program := "ytebgcebjlbhjjaa", sum := "4ca045de5b15ef9d669b8d6ca37130edb3844203ffae5f496f793fc6a64f18dd", func := "loop.example/foxcalculus/laws.FnSumOf", spec := "fnSumOf", inPlace := ["internal/bytealg.abigen_runtime_cmpstring"], unfollowed := true, recurses := true, apart := false }
def FnSumOfSaid : Prop := fnSumOfRow.holds Try.pinned (OpenSpec.ofChange fnSumOfSpec)

/-- ITS FALSE NEIGHBOUR: 'it returns false'. Refute it at one input. -/
def fnSumOfWrong : ChangeSpec := { name := "fnSumOf", fn := fun _ => fun
  | [d] => { results := [.lit (.bool false)], args := [d] }
  | _ => none }
def FnSumOfWrongFalsely : Prop := fnSumOfRow.holds Try.pinned (OpenSpec.ofChange fnSumOfWrong)

/-- 'laws.FnSumAdd': WHATEVER THE INPUT: true; the input reads as it did. -/
def fnSumAddSpec : ChangeSpec := { name := "fnSumAdd", fn := fun _ => fun
  | [d] => { results := [.lit (.bool true)], args := [d] }
  | _ => none }
def fnSumAddRow : OpenClaim := { program := "ytebgcebjlbhjjaa", sum := "4ca045de5b15ef9d669b8d6ca37130edb3844203ffae5f496f793fc6a64f18dd", func := "loop.example/foxcalculus/laws.FnSumAdd", spec := "fnSumAdd", inPlace := ["internal/bytealg.abigen_runtime_cmpstring"], unfollowed := true, recurses := true, apart := false }
def FnSumAddSaid : Prop := fnSumAddRow.holds Try.pinned (OpenSpec.ofChange fnSumAddSpec)

/-- ITS FALSE NEIGHBOUR: 'it returns false'. Refute it at one input. -/
def fnSumAddWrong : ChangeSpec := { name := "fnSumAdd", fn := fun _ => fun
  | [d] => { results := [.lit (.bool false)], args := [d] }
  | _ => none }
def FnSumAddWrongFalsely : Prop := fnSumAddRow.holds Try.pinned (OpenSpec.ofChange fnSumAddWrong)

/-- 'laws.FnSumTimes': WHATEVER THE INPUT: true; the input reads as it did. -/
def fnSumTimesSpec : ChangeSpec := { name := "fnSumTimes", fn := fun _ => fun
  | [d] => { results := [.lit (.bool true)], args := [d] }
  | _ => none }
def fnSumTimesRow : OpenClaim := { program := "ytebgcebjlbhjjaa", sum := "4ca045de5b15ef9d669b8d6ca37130edb3844203ffae5f496f793fc6a64f18dd", func := "loop.example/foxcalculus/laws.FnSumTimes", spec := "fnSumTimes", inPlace := ["internal/bytealg.abigen_runtime_cmpstring"], unfollowed := true, recurses := true, apart := false }
def FnSumTimesSaid : Prop := fnSumTimesRow.holds Try.pinned (OpenSpec.ofChange fnSumTimesSpec)

/-- ITS FALSE NEIGHBOUR: 'it returns false'. Refute it at one input. -/
def fnSumTimesWrong : ChangeSpec := { name := "fnSumTimes", fn := fun _ => fun
  | [d] => { results := [.lit (.bool false)], args := [d] }
  | _ => none }
def FnSumTimesWrongFalsely : Prop := fnSumTimesRow.holds Try.pinned (OpenSpec.ofChange fnSumTimesWrong)

/-- 'laws.FnSumTurned': WHATEVER THE INPUT: true; the input reads as it did. -/
def fnSumTurnedSpec : ChangeSpec := { name := "fnSumTurned", fn := fun _ => fun
  | [d] => { results := [.lit (.bool true)], args := [d] }
  | _ => none }
def fnSumTurnedRow : OpenClaim := { program := "ytebgcebjlbhjjaa", sum := "4ca045de5b15ef9d669b8d6ca37130edb3844203ffae5f496f793fc6a64f18dd", func := "loop.example/foxcalculus/laws.FnSumTurned", spec := "fnSumTurned", inPlace := ["internal/bytealg.abigen_runtime_cmpstring"], unfollowed := true, recurses := true, apart := false }
def FnSumTurnedSaid : Prop := fnSumTurnedRow.holds Try.pinned (OpenSpec.ofChange fnSumTurnedSpec)

/-- ITS FALSE NEIGHBOUR: 'it returns false'. Refute it at one input. -/
def fnSumTurnedWrong : ChangeSpec := { name := "fnSumTurned", fn := fun _ => fun
  | [d] => { results := [.lit (.bool false)], args := [d] }
  | _ => none }
def FnSumTurnedWrongFalsely : Prop := fnSumTurnedRow.holds Try.pinned (OpenSpec.ofChange fnSumTurnedWrong)

/-- 'laws.FnPlain': WHATEVER THE INPUT: true; the input reads as it did. -/
def fnPlainSpec : ChangeSpec := { name := "fnPlain", fn := fun _ => fun
  | [d] => { results := [.lit (.bool true)], args := [d] }
  | _ => none }
def fnPlainRow : OpenClaim := { program := "ytebgcebjlbhjjaa", sum := "4ca045de5b15ef9d669b8d6ca37130edb3844203ffae5f496f793fc6a64f18dd", func := "loop.example/foxcalculus/laws.FnPlain", spec := "fnPlain", inPlace := ["internal/bytealg.abigen_runtime_cmpstring"], unfollowed := true, recurses := true, apart := false }
def FnPlainSaid : Prop := fnPlainRow.holds Try.pinned (OpenSpec.ofChange fnPlainSpec)

/-- ITS FALSE NEIGHBOUR: 'it returns false'. Refute it at one input. -/
def fnPlainWrong : ChangeSpec := { name := "fnPlain", fn := fun _ => fun
  | [d] => { results := [.lit (.bool false)], args := [d] }
  | _ => none }
def FnPlainWrongFalsely : Prop := fnPlainRow.holds Try.pinned (OpenSpec.ofChange fnPlainWrong)

/-- 'laws.FnSumPut': WHATEVER THE INPUT: true; the input reads as it did. -/
def fnSumPutSpec : ChangeSpec := { name := "fnSumPut", fn := fun _ => fun
  | [d] => { results := [.lit (.bool true)], args := [d] }
  | _ => none }
def fnSumPutRow : OpenClaim := { program := "ytebgcebjlbhjjaa", sum := "4ca045de5b15ef9d669b8d6ca37130edb3844203ffae5f496f793fc6a64f18dd", func := "loop.example/foxcalculus/laws.FnSumPut", spec := "fnSumPut", inPlace := ["internal/bytealg.abigen_runtime_cmpstring"], unfollowed := true, recurses := true, apart := false }
def FnSumPutSaid : Prop := fnSumPutRow.holds Try.pinned (OpenSpec.ofChange fnSumPutSpec)

/-- ITS FALSE NEIGHBOUR: 'it returns false'. Refute it at one input. -/
def fnSumPutWrong : ChangeSpec := { name := "fnSumPut", fn := fun _ => fun
  | [d] => { results := [.lit (.bool false)], args := [d] }
  | _ => none }
def FnSumPutWrongFalsely : Prop := fnSumPutRow.holds Try.pinned (OpenSpec.ofChange fnSumPutWrong)

/-- 'laws.FnFox': WHATEVER THE INPUT: true; the input reads as it did. -/
def fnFoxSpec : ChangeSpec := { name := "fnFox", fn := fun _ => fun
  | [d] => { results := [.lit (.bool true)], args := [d] }
  | _ => none }
def fnFoxRow : OpenClaim := { program := "ytebgcebjlbhjjaa", sum := "4ca045de5b15ef9d669b8d6ca37130edb3844203ffae5f496f793fc6a64f18dd", func := "loop.example/foxcalculus/laws.FnFox", spec := "fnFox", inPlace := ["internal/bytealg.abigen_runtime_cmpstring"], unfollowed := true, recurses := true, apart := false }
def FnFoxSaid : Prop := fnFoxRow.holds Try.pinned (OpenSpec.ofChange fnFoxSpec)

/-- ITS FALSE NEIGHBOUR: 'it returns false'. Refute it at one input. -/
def fnFoxWrong : ChangeSpec := { name := "fnFox", fn := fun _ => fun
  | [d] => { results := [.lit (.bool false)], args := [d] }
  | _ => none }
def FnFoxWrongFalsely : Prop := fnFoxRow.holds Try.pinned (OpenSpec.ofChange fnFoxWrong)

/-- 'laws.FnProduct': WHATEVER THE INPUT: true; the input reads as it did. -/
def fnProductSpec : ChangeSpec := { name := "fnProduct", fn := fun _ => fun
  | [d] => { results := [.lit (.bool true)], args := [d] }
  | _ => none }
def fnProductRow : OpenClaim := { program := "ytebgcebjlbhjjaa", sum := "4ca045de5b15ef9d669b8d6ca37130edb3844203ffae5f496f793fc6a64f18dd", func := "loop.example/foxcalculus/laws.FnProduct", spec := "fnProduct", inPlace := ["internal/bytealg.abigen_runtime_cmpstring"], unfollowed := true, recurses := true, apart := false }
def FnProductSaid : Prop := fnProductRow.holds Try.pinned (OpenSpec.ofChange fnProductSpec)

/-- ITS FALSE NEIGHBOUR: 'it returns false'. Refute it at one input. -/
def fnProductWrong : ChangeSpec := { name := "fnProduct", fn := fun _ => fun
  | [d] => { results := [.lit (.bool false)], args := [d] }
  | _ => none }
def FnProductWrongFalsely : Prop := fnProductRow.holds Try.pinned (OpenSpec.ofChange fnProductWrong)

/-- 'laws.FnInverse': WHATEVER THE INPUT: true; the input reads as it did. -/
def fnInverseSpec : ChangeSpec := { name := "fnInverse", fn := fun _ => fun
  | [d] => { results := [.lit (.bool true)], args := [d] }
  | _ => none }
def fnInverseRow : OpenClaim := { program := "ytebgcebjlbhjjaa", sum := "4ca045de5b15ef9d669b8d6ca37130edb3844203ffae5f496f793fc6a64f18dd", func := "loop.example/foxcalculus/laws.FnInverse", spec := "fnInverse", inPlace := ["internal/bytealg.abigen_runtime_cmpstring"], unfollowed := true, recurses := true, apart := false }
def FnInverseSaid : Prop := fnInverseRow.holds Try.pinned (OpenSpec.ofChange fnInverseSpec)

/-- ITS FALSE NEIGHBOUR: 'it returns false'. Refute it at one input. -/
def fnInverseWrong : ChangeSpec := { name := "fnInverse", fn := fun _ => fun
  | [d] => { results := [.lit (.bool false)], args := [d] }
  | _ => none }
def FnInverseWrongFalsely : Prop := fnInverseRow.holds Try.pinned (OpenSpec.ofChange fnInverseWrong)

/-- 'laws.FnFoxSum': WHATEVER THE INPUT: true; the input reads as it did. -/
def fnFoxSumSpec : ChangeSpec := { name := "fnFoxSum", fn := fun _ => fun
  | [d] => { results := [.lit (.bool true)], args := [d] }
  | _ => none }
def fnFoxSumRow : OpenClaim := { program := "ytebgcebjlbhjjaa", sum := "4ca045de5b15ef9d669b8d6ca37130edb3844203ffae5f496f793fc6a64f18dd", func := "loop.example/foxcalculus/laws.FnFoxSum", spec := "fnFoxSum", inPlace := ["internal/bytealg.abigen_runtime_cmpstring"], unfollowed := true, recurses := true, apart := false }
def FnFoxSumSaid : Prop := fnFoxSumRow.holds Try.pinned (OpenSpec.ofChange fnFoxSumSpec)

/-- ITS FALSE NEIGHBOUR: 'it returns false'. Refute it at one input. -/
def fnFoxSumWrong : ChangeSpec := { name := "fnFoxSum", fn := fun _ => fun
  | [d] => { results := [.lit (.bool false)], args := [d] }
  | _ => none }
def FnFoxSumWrongFalsely : Prop := fnFoxSumRow.holds Try.pinned (OpenSpec.ofChange fnFoxSumWrong)

/-- 'laws.FnFundamental': WHATEVER THE INPUT: true; the input reads as it did. -/
def fnFundamentalSpec : ChangeSpec := { name := "fnFundamental", fn := fun _ => fun
  | [d] => { results := [.lit (.bool true)], args := [d] }
  | _ => none }
def fnFundamentalRow : OpenClaim := { program := "ytebgcebjlbhjjaa", sum := "4ca045de5b15ef9d669b8d6ca37130edb3844203ffae5f496f793fc6a64f18dd", func := "loop.example/foxcalculus/laws.FnFundamental", spec := "fnFundamental", inPlace := ["internal/bytealg.abigen_runtime_cmpstring"], unfollowed := true, recurses := true, apart := false }
def FnFundamentalSaid : Prop := fnFundamentalRow.holds Try.pinned (OpenSpec.ofChange fnFundamentalSpec)

/-- ITS FALSE NEIGHBOUR: 'it returns false'. Refute it at one input. -/
def fnFundamentalWrong : ChangeSpec := { name := "fnFundamental", fn := fun _ => fun
  | [d] => { results := [.lit (.bool false)], args := [d] }
  | _ => none }
def FnFundamentalWrongFalsely : Prop := fnFundamentalRow.holds Try.pinned (OpenSpec.ofChange fnFundamentalWrong)

/- THE SECOND FORM. 'bulk': how many values and letters a reading holds, each counted each time it is reached (what is shared counts as often as it is met; a slice's spare places count too). A statement '..UptoSaid' is the law's where the arguments, and the package variables that the reading takes, are together of bulk at most 1048576: NARROWER than '..Said'. Prove '..Said' where nothing that the law and all that it calls make is longer than what came in: it says more and counts as full. Else prove '..UptoSaid'. A law counts once. -/
mutual
def uptoBulk {H : Type} : DataW H → Nat
  | .lit (.string bytes) => bytes.length + 1
  | .lit _ => 1
  | .nil => 1
  | .ptr d => uptoBulk d + 1
  | .slice elems spare => uptoBulkAll elems + uptoBulkAll spare + 1
  | .agg parts => uptoBulkAll parts + 1
  | .iface _ d => uptoBulk d + 1
  | .map entries => uptoBulkEntries entries + 1
  | .held _ => 1
def uptoBulkAll {H : Type} : List (DataW H) → Nat
  | [] => 0
  | d :: r => uptoBulk d + uptoBulkAll r
def uptoBulkEntries {H : Type} : List (Lit × DataW H) → Nat
  | [] => 0
  | x :: r => uptoBulkEntry x + uptoBulkEntries r
def uptoBulkEntry {H : Type} : Lit × DataW H → Nat
  | (.string bytes, d) => bytes.length + uptoBulk d + 1
  | (_, d) => uptoBulk d + 1
 end
def uptoSmall : (H : Type) → List (DataW H) → Bool := fun _ ds => decide (uptoBulkAll ds ≤ 1048576)
def OpenSpec.upto (s : _root_.Go.ChangeSpec) : _root_.Go.OpenSpec := { _root_.Go.OpenSpec.ofChange s with cond := some uptoSmall }

/-- 'laws.FnSum', WHERE WHAT IT READS IS OF BULK AT MOST 1048576: true; the input reads as it did. -/
def fnSumUptoRow : OpenClaim := { program := "ytebgcebjlbhjjaa", sum := "4ca045de5b15ef9d669b8d6ca37130edb3844203ffae5f496f793fc6a64f18dd", func := "loop.example/foxcalculus/laws.FnSum", spec := "fnSum", inPlace := ["internal/bytealg.abigen_runtime_cmpstring"], unfollowed := true, recurses := true, apart := false, narrowed := true }
def FnSumUptoSaid : Prop := fnSumUptoRow.holds Try.pinned (OpenSpec.upto fnSumSpec)

/-- 'laws.FnSumOf', WHERE WHAT IT READS IS OF BULK AT MOST 1048576: true; the input reads as it did. -/
def fnSumOfUptoRow : OpenClaim := { program := "ytebgcebjlbhjjaa", sum := "4ca045de5b15ef9d669b8d6ca37130edb3844203ffae5f496f793fc6a64f18dd", func := "loop.example/foxcalculus/laws.FnSumOf", spec := "fnSumOf", inPlace := ["internal/bytealg.abigen_runtime_cmpstring"], unfollowed := true, recurses := true, apart := false, narrowed := true }
def FnSumOfUptoSaid : Prop := fnSumOfUptoRow.holds Try.pinned (OpenSpec.upto fnSumOfSpec)

/-- 'laws.FnSumAdd', WHERE WHAT IT READS IS OF BULK AT MOST 1048576: true; the input reads as it did. -/
def fnSumAddUptoRow : OpenClaim := { program := "ytebgcebjlbhjjaa", sum := "4ca045de5b15ef9d669b8d6ca37130edb3844203ffae5f496f793fc6a64f18dd", func := "loop.example/foxcalculus/laws.FnSumAdd", spec := "fnSumAdd", inPlace := ["internal/bytealg.abigen_runtime_cmpstring"], unfollowed := true, recurses := true, apart := false, narrowed := true }
def FnSumAddUptoSaid : Prop := fnSumAddUptoRow.holds Try.pinned (OpenSpec.upto fnSumAddSpec)

/-- 'laws.FnSumTimes', WHERE WHAT IT READS IS OF BULK AT MOST 1048576: true; the input reads as it did. -/
def fnSumTimesUptoRow : OpenClaim := { program := "ytebgcebjlbhjjaa", sum := "4ca045de5b15ef9d669b8d6ca37130edb3844203ffae5f496f793fc6a64f18dd", func := "loop.example/foxcalculus/laws.FnSumTimes", spec := "fnSumTimes", inPlace := ["internal/bytealg.abigen_runtime_cmpstring"], unfollowed := true, recurses := true, apart := false, narrowed := true }
def FnSumTimesUptoSaid : Prop := fnSumTimesUptoRow.holds Try.pinned (OpenSpec.upto fnSumTimesSpec)

/-- 'laws.FnSumTurned', WHERE WHAT IT READS IS OF BULK AT MOST 1048576: true; the input reads as it did. -/
def fnSumTurnedUptoRow : OpenClaim := { program := "ytebgcebjlbhjjaa", sum := "4ca045de5b15ef9d669b8d6ca37130edb3844203ffae5f496f793fc6a64f18dd", func := "loop.example/foxcalculus/laws.FnSumTurned", spec := "fnSumTurned", inPlace := ["internal/bytealg.abigen_runtime_cmpstring"], unfollowed := true, recurses := true, apart := false, narrowed := true }
def FnSumTurnedUptoSaid : Prop := fnSumTurnedUptoRow.holds Try.pinned (OpenSpec.upto fnSumTurnedSpec)

/-- 'laws.FnPlain', WHERE WHAT IT READS IS OF BULK AT MOST 1048576: true; the input reads as it did. -/
def fnPlainUptoRow : OpenClaim := { program := "ytebgcebjlbhjjaa", sum := "4ca045de5b15ef9d669b8d6ca37130edb3844203ffae5f496f793fc6a64f18dd", func := "loop.example/foxcalculus/laws.FnPlain", spec := "fnPlain", inPlace := ["internal/bytealg.abigen_runtime_cmpstring"], unfollowed := true, recurses := true, apart := false, narrowed := true }
def FnPlainUptoSaid : Prop := fnPlainUptoRow.holds Try.pinned (OpenSpec.upto fnPlainSpec)

/-- 'laws.FnSumPut', WHERE WHAT IT READS IS OF BULK AT MOST 1048576: true; the input reads as it did. -/
def fnSumPutUptoRow : OpenClaim := { program := "ytebgcebjlbhjjaa", sum := "4ca045de5b15ef9d669b8d6ca37130edb3844203ffae5f496f793fc6a64f18dd", func := "loop.example/foxcalculus/laws.FnSumPut", spec := "fnSumPut", inPlace := ["internal/bytealg.abigen_runtime_cmpstring"], unfollowed := true, recurses := true, apart := false, narrowed := true }
def FnSumPutUptoSaid : Prop := fnSumPutUptoRow.holds Try.pinned (OpenSpec.upto fnSumPutSpec)

/-- 'laws.FnFox', WHERE WHAT IT READS IS OF BULK AT MOST 1048576: true; the input reads as it did. -/
def fnFoxUptoRow : OpenClaim := { program := "ytebgcebjlbhjjaa", sum := "4ca045de5b15ef9d669b8d6ca37130edb3844203ffae5f496f793fc6a64f18dd", func := "loop.example/foxcalculus/laws.FnFox", spec := "fnFox", inPlace := ["internal/bytealg.abigen_runtime_cmpstring"], unfollowed := true, recurses := true, apart := false, narrowed := true }
def FnFoxUptoSaid : Prop := fnFoxUptoRow.holds Try.pinned (OpenSpec.upto fnFoxSpec)

/-- 'laws.FnProduct', WHERE WHAT IT READS IS OF BULK AT MOST 1048576: true; the input reads as it did. -/
def fnProductUptoRow : OpenClaim := { program := "ytebgcebjlbhjjaa", sum := "4ca045de5b15ef9d669b8d6ca37130edb3844203ffae5f496f793fc6a64f18dd", func := "loop.example/foxcalculus/laws.FnProduct", spec := "fnProduct", inPlace := ["internal/bytealg.abigen_runtime_cmpstring"], unfollowed := true, recurses := true, apart := false, narrowed := true }
def FnProductUptoSaid : Prop := fnProductUptoRow.holds Try.pinned (OpenSpec.upto fnProductSpec)

/-- 'laws.FnInverse', WHERE WHAT IT READS IS OF BULK AT MOST 1048576: true; the input reads as it did. -/
def fnInverseUptoRow : OpenClaim := { program := "ytebgcebjlbhjjaa", sum := "4ca045de5b15ef9d669b8d6ca37130edb3844203ffae5f496f793fc6a64f18dd", func := "loop.example/foxcalculus/laws.FnInverse", spec := "fnInverse", inPlace := ["internal/bytealg.abigen_runtime_cmpstring"], unfollowed := true, recurses := true, apart := false, narrowed := true }
def FnInverseUptoSaid : Prop := fnInverseUptoRow.holds Try.pinned (OpenSpec.upto fnInverseSpec)

/-- 'laws.FnFoxSum', WHERE WHAT IT READS IS OF BULK AT MOST 1048576: true; the input reads as it did. -/
def fnFoxSumUptoRow : OpenClaim := { program := "ytebgcebjlbhjjaa", sum := "4ca045de5b15ef9d669b8d6ca37130edb3844203ffae5f496f793fc6a64f18dd", func := "loop.example/foxcalculus/laws.FnFoxSum", spec := "fnFoxSum", inPlace := ["internal/bytealg.abigen_runtime_cmpstring"], unfollowed := true, recurses := true, apart := false, narrowed := true }
def FnFoxSumUptoSaid : Prop := fnFoxSumUptoRow.holds Try.pinned (OpenSpec.upto fnFoxSumSpec)

/-- 'laws.FnFundamental', WHERE WHAT IT READS IS OF BULK AT MOST 1048576: true; the input reads as it did. -/
def fnFundamentalUptoRow : OpenClaim := { program := "ytebgcebjlbhjjaa", sum := "4ca045de5b15ef9d669b8d6ca37130edb3844203ffae5f496f793fc6a64f18dd", func := "loop.example/foxcalculus/laws.FnFundamental", spec := "fnFundamental", inPlace := ["internal/bytealg.abigen_runtime_cmpstring"], unfollowed := true, recurses := true, apart := false, narrowed := true }
def FnFundamentalUptoSaid : Prop := fnFundamentalUptoRow.holds Try.pinned (OpenSpec.upto fnFundamentalSpec)

end Rows
end Go.Proofs.Ytebgcebjlbhjjaa

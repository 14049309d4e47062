/-
  No cell of these rows narrows 'for every input' (looked for: loops, veiled, ifaces, maps, wideKeys, modest, calm, conditions, laid).
  DERIVED. THE GIVEN ROWS OF THIS SEAT. 8 by the template 'for every input the law returns true; each argument reads behind the call as it read before'; 0 by the template 'total and deterministic' (their statements: YtkkklpchkkdhfaaTotals.lean).
  GIVEN WITH THE SEED: the statements are not yours to turn. If you find one false, say at which input.
  Laid BY PROGRAM, IN A SANDBOX (cutbox-rows.mjs): the forced cells as the released guide's own fill.sh prints them over the translation c7c23edc18e0a600… (all of the seat's roots in one cut). By AI agents, Wed Nov 11 2026. No macro, syntax, notation, axiom, sorry.
-/
import Derived.Test.YtkkklpchkkdhfaaChecked
import GoSem.Claim
import GoSem.ClaimJoined
import GoSem.ClaimMapViews
import Derived.JoinedTies
import Derived.KernelRfl
namespace Go.Proofs.Ytkkklpchkkdhfaa
/- THE CELL 'sum', in the pinned program and in every row, IS THE sha256 OF THE DUMP (.gsa) THAT YtkkklpchkkdhfaaProg.lean LOADS. Nothing in Lean hashes anything: it is a label: what it is worth is what the hold of that sum in a sandbox is worth. -/
noncomputable def Try.pinned : Pinned := { name := "ytkkklpchkkdhfaa", sum := "c7c23edc18e0a600aca4d2cfb181f212ccde9b24dfd73fee41af4f09020c9c8c", checked := Try.checked }
namespace Rows
def none {H : Type} : Left H := { results := [], args := [] }

/-- 'laws.FnSlopes': WHATEVER THE INPUT: true; the input reads as it did. -/
def fnSlopesSpec : ChangeSpec := { name := "fnSlopes", fn := fun _ => fun
  | [d] => { results := [.lit (.bool true)], args := [d] }
  | _ => none }
def fnSlopesRow : OpenClaim := { program := "ytkkklpchkkdhfaa", sum := "c7c23edc18e0a600aca4d2cfb181f212ccde9b24dfd73fee41af4f09020c9c8c", func := "loop.example/g00928/laws.FnSlopes", spec := "fnSlopes", inPlace := ["internal/bytealg.CountString", "internal/bytealg.IndexByteString", "internal/bytealg.IndexString", "internal/bytealg.Count", "internal/bytealg.IndexByte", "internal/bytealg.Index"], named := ["internal/bytealg.MaxLen"], apart := false }
def FnSlopesSaid : Prop := fnSlopesRow.holds Try.pinned (OpenSpec.ofChange fnSlopesSpec)

/-- ITS FALSE NEIGHBOUR: 'it returns false'. Refute it at one input. -/
def fnSlopesWrong : ChangeSpec := { name := "fnSlopes", fn := fun _ => fun
  | [d] => { results := [.lit (.bool false)], args := [d] }
  | _ => none }
def FnSlopesWrongFalsely : Prop := fnSlopesRow.holds Try.pinned (OpenSpec.ofChange fnSlopesWrong)

/-- 'laws.FnPaths': WHATEVER THE INPUT: true; the input reads as it did. -/
def fnPathsSpec : ChangeSpec := { name := "fnPaths", fn := fun _ => fun
  | [d] => { results := [.lit (.bool true)], args := [d] }
  | _ => none }
def fnPathsRow : OpenClaim := { program := "ytkkklpchkkdhfaa", sum := "c7c23edc18e0a600aca4d2cfb181f212ccde9b24dfd73fee41af4f09020c9c8c", func := "loop.example/g00928/laws.FnPaths", spec := "fnPaths", inPlace := ["internal/abi.NoEscape", "internal/bytealg.MakeNoZero"], apart := false }
def FnPathsSaid : Prop := fnPathsRow.holds Try.pinned (OpenSpec.ofChange fnPathsSpec)

/-- ITS FALSE NEIGHBOUR: 'it returns false'. Refute it at one input. -/
def fnPathsWrong : ChangeSpec := { name := "fnPaths", fn := fun _ => fun
  | [d] => { results := [.lit (.bool false)], args := [d] }
  | _ => none }
def FnPathsWrongFalsely : Prop := fnPathsRow.holds Try.pinned (OpenSpec.ofChange fnPathsWrong)

/-- 'laws.FnExactPathSquares': WHATEVER THE INPUT: true; the input reads as it did. -/
def fnExactPathSquaresSpec : ChangeSpec := { name := "fnExactPathSquares", fn := fun _ => fun
  | [d1, d2, d3, d4] => { results := [.lit (.bool true)], args := [d1, d2, d3, d4] }
  | _ => none }
def fnExactPathSquaresRow : OpenClaim := { program := "ytkkklpchkkdhfaa", sum := "c7c23edc18e0a600aca4d2cfb181f212ccde9b24dfd73fee41af4f09020c9c8c", func := "loop.example/g00928/laws.FnExactPathSquares", spec := "fnExactPathSquares", apart := false }
def FnExactPathSquaresSaid : Prop := fnExactPathSquaresRow.holds Try.pinned (OpenSpec.ofChange fnExactPathSquaresSpec)

/-- ITS FALSE NEIGHBOUR: 'it returns false'. Refute it at one input. -/
def fnExactPathSquaresWrong : ChangeSpec := { name := "fnExactPathSquares", fn := fun _ => fun
  | [d1, d2, d3, d4] => { results := [.lit (.bool false)], args := [d1, d2, d3, d4] }
  | _ => none }
def FnExactPathSquaresWrongFalsely : Prop := fnExactPathSquaresRow.holds Try.pinned (OpenSpec.ofChange fnExactPathSquaresWrong)

/-- 'laws.FnExactPathRounds': WHATEVER THE INPUT: true; the input reads as it did. -/
def fnExactPathRoundsSpec : ChangeSpec := { name := "fnExactPathRounds", fn := fun _ => fun
  | [d1, d2, d3, d4] => { results := [.lit (.bool true)], args := [d1, d2, d3, d4] }
  | _ => none }
def fnExactPathRoundsRow : OpenClaim := { program := "ytkkklpchkkdhfaa", sum := "c7c23edc18e0a600aca4d2cfb181f212ccde9b24dfd73fee41af4f09020c9c8c", func := "loop.example/g00928/laws.FnExactPathRounds", spec := "fnExactPathRounds", apart := false }
def FnExactPathRoundsSaid : Prop := fnExactPathRoundsRow.holds Try.pinned (OpenSpec.ofChange fnExactPathRoundsSpec)

/-- ITS FALSE NEIGHBOUR: 'it returns false'. Refute it at one input. -/
def fnExactPathRoundsWrong : ChangeSpec := { name := "fnExactPathRounds", fn := fun _ => fun
  | [d1, d2, d3, d4] => { results := [.lit (.bool false)], args := [d1, d2, d3, d4] }
  | _ => none }
def FnExactPathRoundsWrongFalsely : Prop := fnExactPathRoundsRow.holds Try.pinned (OpenSpec.ofChange fnExactPathRoundsWrong)

/-- 'laws.FnExactPathText': WHATEVER THE INPUT: true; the input reads as it did. -/
def fnExactPathTextSpec : ChangeSpec := { name := "fnExactPathText", fn := fun _ => fun
  | [d1, d2, d3, d4] => { results := [.lit (.bool true)], args := [d1, d2, d3, d4] }
  | _ => none }
def fnExactPathTextRow : OpenClaim := { program := "ytkkklpchkkdhfaa", sum := "c7c23edc18e0a600aca4d2cfb181f212ccde9b24dfd73fee41af4f09020c9c8c", func := "loop.example/g00928/laws.FnExactPathText", spec := "fnExactPathText", inPlace := ["internal/abi.NoEscape", "internal/bytealg.MakeNoZero"], apart := false }
def FnExactPathTextSaid : Prop := fnExactPathTextRow.holds Try.pinned (OpenSpec.ofChange fnExactPathTextSpec)

/-- ITS FALSE NEIGHBOUR: 'it returns false'. Refute it at one input. -/
def fnExactPathTextWrong : ChangeSpec := { name := "fnExactPathText", fn := fun _ => fun
  | [d1, d2, d3, d4] => { results := [.lit (.bool false)], args := [d1, d2, d3, d4] }
  | _ => none }
def FnExactPathTextWrongFalsely : Prop := fnExactPathTextRow.holds Try.pinned (OpenSpec.ofChange fnExactPathTextWrong)

/-- 'laws.FnExactVisits': WHATEVER THE INPUT: true; the input reads as it did. -/
def fnExactVisitsSpec : ChangeSpec := { name := "fnExactVisits", fn := fun _ => fun
  | [d1, d2, d3, d4] => { results := [.lit (.bool true)], args := [d1, d2, d3, d4] }
  | _ => none }
def fnExactVisitsRow : OpenClaim := { program := "ytkkklpchkkdhfaa", sum := "c7c23edc18e0a600aca4d2cfb181f212ccde9b24dfd73fee41af4f09020c9c8c", func := "loop.example/g00928/laws.FnExactVisits", spec := "fnExactVisits", apart := false }
def FnExactVisitsSaid : Prop := fnExactVisitsRow.holds Try.pinned (OpenSpec.ofChange fnExactVisitsSpec)

/-- ITS FALSE NEIGHBOUR: 'it returns false'. Refute it at one input. -/
def fnExactVisitsWrong : ChangeSpec := { name := "fnExactVisits", fn := fun _ => fun
  | [d1, d2, d3, d4] => { results := [.lit (.bool false)], args := [d1, d2, d3, d4] }
  | _ => none }
def FnExactVisitsWrongFalsely : Prop := fnExactVisitsRow.holds Try.pinned (OpenSpec.ofChange fnExactVisitsWrong)

/-- 'laws.FnExactIsBalanced': WHATEVER THE INPUT: true; the input reads as it did. -/
def fnExactIsBalancedSpec : ChangeSpec := { name := "fnExactIsBalanced", fn := fun _ => fun
  | [d] => { results := [.lit (.bool true)], args := [d] }
  | _ => none }
def fnExactIsBalancedRow : OpenClaim := { program := "ytkkklpchkkdhfaa", sum := "c7c23edc18e0a600aca4d2cfb181f212ccde9b24dfd73fee41af4f09020c9c8c", func := "loop.example/g00928/laws.FnExactIsBalanced", spec := "fnExactIsBalanced", inPlace := ["internal/bytealg.CountString", "internal/bytealg.IndexByteString", "internal/bytealg.IndexString", "internal/bytealg.Count", "internal/bytealg.IndexByte", "internal/bytealg.Index"], named := ["internal/bytealg.MaxLen"], apart := false }
def FnExactIsBalancedSaid : Prop := fnExactIsBalancedRow.holds Try.pinned (OpenSpec.ofChange fnExactIsBalancedSpec)

/-- ITS FALSE NEIGHBOUR: 'it returns false'. Refute it at one input. -/
def fnExactIsBalancedWrong : ChangeSpec := { name := "fnExactIsBalanced", fn := fun _ => fun
  | [d] => { results := [.lit (.bool false)], args := [d] }
  | _ => none }
def FnExactIsBalancedWrongFalsely : Prop := fnExactIsBalancedRow.holds Try.pinned (OpenSpec.ofChange fnExactIsBalancedWrong)

/-- 'laws.FnExactSlopeFrom': WHATEVER THE INPUT: true; the input reads as it did. -/
def fnExactSlopeFromSpec : ChangeSpec := { name := "fnExactSlopeFrom", fn := fun _ => fun
  | [d] => { results := [.lit (.bool true)], args := [d] }
  | _ => none }
def fnExactSlopeFromRow : OpenClaim := { program := "ytkkklpchkkdhfaa", sum := "c7c23edc18e0a600aca4d2cfb181f212ccde9b24dfd73fee41af4f09020c9c8c", func := "loop.example/g00928/laws.FnExactSlopeFrom", spec := "fnExactSlopeFrom", inPlace := ["internal/bytealg.CountString", "internal/bytealg.IndexByteString", "internal/bytealg.IndexString"], named := ["internal/bytealg.MaxLen"], apart := false }
def FnExactSlopeFromSaid : Prop := fnExactSlopeFromRow.holds Try.pinned (OpenSpec.ofChange fnExactSlopeFromSpec)

/-- ITS FALSE NEIGHBOUR: 'it returns false'. Refute it at one input. -/
def fnExactSlopeFromWrong : ChangeSpec := { name := "fnExactSlopeFrom", fn := fun _ => fun
  | [d] => { results := [.lit (.bool false)], args := [d] }
  | _ => none }
def FnExactSlopeFromWrongFalsely : Prop := fnExactSlopeFromRow.holds Try.pinned (OpenSpec.ofChange fnExactSlopeFromWrong)

/- THE SECOND FORM. 'bulk': how many values and letters a reading holds, each counted each time it is reached (what is shared counts as often as it is met; a slice's spare places count too). A statement '..UptoSaid' is the law's where the arguments, and the package variables that the reading takes, are together of bulk at most 1048576: NARROWER than '..Said'. Prove '..Said' where nothing that the law and all that it calls make is longer than what came in: it says more and counts as full. Else prove '..UptoSaid'. A law counts once. -/
mutual
def uptoBulk {H : Type} : DataW H → Nat
  | .lit (.string bytes) => bytes.length + 1
  | .lit _ => 1
  | .nil => 1
  | .ptr d => uptoBulk d + 1
  | .slice elems spare => uptoBulkAll elems + uptoBulkAll spare + 1
  | .agg parts => uptoBulkAll parts + 1
  | .iface _ d => uptoBulk d + 1
  | .map entries => uptoBulkEntries entries + 1
  | .held _ => 1
def uptoBulkAll {H : Type} : List (DataW H) → Nat
  | [] => 0
  | d :: r => uptoBulk d + uptoBulkAll r
def uptoBulkEntries {H : Type} : List (Lit × DataW H) → Nat
  | [] => 0
  | x :: r => uptoBulkEntry x + uptoBulkEntries r
def uptoBulkEntry {H : Type} : Lit × DataW H → Nat
  | (.string bytes, d) => bytes.length + uptoBulk d + 1
  | (_, d) => uptoBulk d + 1
 end
def uptoSmall : (H : Type) → List (DataW H) → Bool := fun _ ds => decide (uptoBulkAll ds ≤ 1048576)
def OpenSpec.upto (s : _root_.Go.ChangeSpec) : _root_.Go.OpenSpec := { _root_.Go.OpenSpec.ofChange s with cond := some uptoSmall }

/-- 'laws.FnSlopes', WHERE WHAT IT READS IS OF BULK AT MOST 1048576: true; the input reads as it did. -/
def fnSlopesUptoRow : OpenClaim := { program := "ytkkklpchkkdhfaa", sum := "c7c23edc18e0a600aca4d2cfb181f212ccde9b24dfd73fee41af4f09020c9c8c", func := "loop.example/g00928/laws.FnSlopes", spec := "fnSlopes", inPlace := ["internal/bytealg.CountString", "internal/bytealg.IndexByteString", "internal/bytealg.IndexString", "internal/bytealg.Count", "internal/bytealg.IndexByte", "internal/bytealg.Index"], named := ["internal/bytealg.MaxLen"], apart := false, narrowed := true }
def FnSlopesUptoSaid : Prop := fnSlopesUptoRow.holds Try.pinned (OpenSpec.upto fnSlopesSpec)

/-- 'laws.FnPaths', WHERE WHAT IT READS IS OF BULK AT MOST 1048576: true; the input reads as it did. -/
def fnPathsUptoRow : OpenClaim := { program := "ytkkklpchkkdhfaa", sum := "c7c23edc18e0a600aca4d2cfb181f212ccde9b24dfd73fee41af4f09020c9c8c", func := "loop.example/g00928/laws.FnPaths", spec := "fnPaths", inPlace := ["internal/abi.NoEscape", "internal/bytealg.MakeNoZero"], apart := false, narrowed := true }
def FnPathsUptoSaid : Prop := fnPathsUptoRow.holds Try.pinned (OpenSpec.upto fnPathsSpec)

/-- 'laws.FnExactPathSquares', WHERE WHAT IT READS IS OF BULK AT MOST 1048576: true; the input reads as it did. -/
def fnExactPathSquaresUptoRow : OpenClaim := { program := "ytkkklpchkkdhfaa", sum := "c7c23edc18e0a600aca4d2cfb181f212ccde9b24dfd73fee41af4f09020c9c8c", func := "loop.example/g00928/laws.FnExactPathSquares", spec := "fnExactPathSquares", apart := false, narrowed := true }
def FnExactPathSquaresUptoSaid : Prop := fnExactPathSquaresUptoRow.holds Try.pinned (OpenSpec.upto fnExactPathSquaresSpec)

/-- 'laws.FnExactPathRounds', WHERE WHAT IT READS IS OF BULK AT MOST 1048576: true; the input reads as it did. -/
def fnExactPathRoundsUptoRow : OpenClaim := { program := "ytkkklpchkkdhfaa", sum := "c7c23edc18e0a600aca4d2cfb181f212ccde9b24dfd73fee41af4f09020c9c8c", func := "loop.example/g00928/laws.FnExactPathRounds", spec := "fnExactPathRounds", apart := false, narrowed := true }
def FnExactPathRoundsUptoSaid : Prop := fnExactPathRoundsUptoRow.holds Try.pinned (OpenSpec.upto fnExactPathRoundsSpec)

/-- 'laws.FnExactPathText', WHERE WHAT IT READS IS OF BULK AT MOST 1048576: true; the input reads as it did. -/
def fnExactPathTextUptoRow : OpenClaim := { program := "ytkkklpchkkdhfaa", sum := "c7c23edc18e0a600aca4d2cfb181f212ccde9b24dfd73fee41af4f09020c9c8c", func := "loop.example/g00928/laws.FnExactPathText", spec := "fnExactPathText", inPlace := ["internal/abi.NoEscape", "internal/bytealg.MakeNoZero"], apart := false, narrowed := true }
def FnExactPathTextUptoSaid : Prop := fnExactPathTextUptoRow.holds Try.pinned (OpenSpec.upto fnExactPathTextSpec)

/-- 'laws.FnExactVisits', WHERE WHAT IT READS IS OF BULK AT MOST 1048576: true; the input reads as it did. -/
def fnExactVisitsUptoRow : OpenClaim := { program := "ytkkklpchkkdhfaa", sum := "c7c23edc18e0a600aca4d2cfb181f212ccde9b24dfd73fee41af4f09020c9c8c", func := "loop.example/g00928/laws.FnExactVisits", spec := "fnExactVisits", apart := false, narrowed := true }
def FnExactVisitsUptoSaid : Prop := fnExactVisitsUptoRow.holds Try.pinned (OpenSpec.upto fnExactVisitsSpec)

/-- 'laws.FnExactIsBalanced', WHERE WHAT IT READS IS OF BULK AT MOST 1048576: true; the input reads as it did. -/
def fnExactIsBalancedUptoRow : OpenClaim := { program := "ytkkklpchkkdhfaa", sum := "c7c23edc18e0a600aca4d2cfb181f212ccde9b24dfd73fee41af4f09020c9c8c", func := "loop.example/g00928/laws.FnExactIsBalanced", spec := "fnExactIsBalanced", inPlace := ["internal/bytealg.CountString", "internal/bytealg.IndexByteString", "internal/bytealg.IndexString", "internal/bytealg.Count", "internal/bytealg.IndexByte", "internal/bytealg.Index"], named := ["internal/bytealg.MaxLen"], apart := false, narrowed := true }
def FnExactIsBalancedUptoSaid : Prop := fnExactIsBalancedUptoRow.holds Try.pinned (OpenSpec.upto fnExactIsBalancedSpec)

/-- 'laws.FnExactSlopeFrom', WHERE WHAT IT READS IS OF BULK AT MOST 1048576: true; the input reads as it did. -/
def fnExactSlopeFromUptoRow : OpenClaim := { program := "ytkkklpchkkdhfaa", sum := "c7c23edc18e0a600aca4d2cfb181f212ccde9b24dfd73fee41af4f09020c9c8c", func := "loop.example/g00928/laws.FnExactSlopeFrom", spec := "fnExactSlopeFrom", inPlace := ["internal/bytealg.CountString", "internal/bytealg.IndexByteString", "internal/bytealg.IndexString"], named := ["internal/bytealg.MaxLen"], apart := false, narrowed := true }
def FnExactSlopeFromUptoSaid : Prop := fnExactSlopeFromUptoRow.holds Try.pinned (OpenSpec.upto fnExactSlopeFromSpec)

end Rows
end Go.Proofs.Ytkkklpchkkdhfaa

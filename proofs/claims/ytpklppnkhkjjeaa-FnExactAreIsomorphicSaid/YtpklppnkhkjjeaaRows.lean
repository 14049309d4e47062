/-
  No cell of these rows narrows 'for every input' (looked for: loops, veiled, ifaces, maps, wideKeys, modest, calm, conditions, laid).
  DERIVED. THE GIVEN ROWS OF THIS SEAT. 11 by the template 'for every input the law returns true; each argument reads behind the call as it read before'; 0 by the template 'total and deterministic' (their statements: YtpklppnkhkjjeaaTotals.lean).
  GIVEN WITH THE SEED: the statements are not yours to turn. If you find one false, say at which input.
  Laid BY PROGRAM, IN A SANDBOX (cutbox-rows.mjs): the forced cells as the released guide's own fill.sh prints them over the translation a941d44c52fd4f91… (all of the seat's roots in one cut). By AI agents, Wed Nov 11 2026. No macro, syntax, notation, axiom, sorry.
-/
import Derived.Test.YtpklppnkhkjjeaaChecked
import GoSem.Claim
import GoSem.ClaimJoined
import GoSem.ClaimMapViews
import Derived.JoinedTies
import Derived.KernelRfl
namespace Go.Proofs.Ytpklppnkhkjjeaa
/- THE CELL 'sum', in the pinned program and in every row, IS THE sha256 OF THE DUMP (.gsa) THAT YtpklppnkhkjjeaaProg.lean LOADS. Nothing in Lean hashes anything: it is a label: what it is worth is what the hold of that sum in a sandbox is worth. -/
noncomputable def Try.pinned : Pinned := { name := "ytpklppnkhkjjeaa", sum := "a941d44c52fd4f9155a752747faf5a53a3eb13ae7c2425a7ddb9d6c6a05b1905", checked := Try.checked }
namespace Rows
def none {H : Type} : Left H := { results := [], args := [] }

/-- 'laws.FnCanon': WHATEVER THE INPUT: true; the input reads as it did. -/
def fnCanonSpec : ChangeSpec := { name := "fnCanon", fn := fun _ => fun
  | [d] => { results := [.lit (.bool true)], args := [d] }
  | _ => none }
def fnCanonRow : OpenClaim := { program := "ytpklppnkhkjjeaa", sum := "a941d44c52fd4f9155a752747faf5a53a3eb13ae7c2425a7ddb9d6c6a05b1905", func := "loop.example/g00928/laws.FnCanon", spec := "fnCanon", apart := false }
def FnCanonSaid : Prop := fnCanonRow.holds Try.pinned (OpenSpec.ofChange fnCanonSpec)

/-- ITS FALSE NEIGHBOUR: 'it returns false'. Refute it at one input. -/
def fnCanonWrong : ChangeSpec := { name := "fnCanon", fn := fun _ => fun
  | [d] => { results := [.lit (.bool false)], args := [d] }
  | _ => none }
def FnCanonWrongFalsely : Prop := fnCanonRow.holds Try.pinned (OpenSpec.ofChange fnCanonWrong)

/-- 'laws.FnExactSurfaceOk': WHATEVER THE INPUT: true; the input reads as it did. -/
def fnExactSurfaceOkSpec : ChangeSpec := { name := "fnExactSurfaceOk", fn := fun _ => fun
  | [d] => { results := [.lit (.bool true)], args := [d] }
  | _ => none }
def fnExactSurfaceOkRow : OpenClaim := { program := "ytpklppnkhkjjeaa", sum := "a941d44c52fd4f9155a752747faf5a53a3eb13ae7c2425a7ddb9d6c6a05b1905", func := "loop.example/g00928/laws.FnExactSurfaceOk", spec := "fnExactSurfaceOk", apart := false }
def FnExactSurfaceOkSaid : Prop := fnExactSurfaceOkRow.holds Try.pinned (OpenSpec.ofChange fnExactSurfaceOkSpec)

/-- ITS FALSE NEIGHBOUR: 'it returns false'. Refute it at one input. -/
def fnExactSurfaceOkWrong : ChangeSpec := { name := "fnExactSurfaceOk", fn := fun _ => fun
  | [d] => { results := [.lit (.bool false)], args := [d] }
  | _ => none }
def FnExactSurfaceOkWrongFalsely : Prop := fnExactSurfaceOkRow.holds Try.pinned (OpenSpec.ofChange fnExactSurfaceOkWrong)

/-- 'laws.FnExactCountSquares': WHATEVER THE INPUT: true; the input reads as it did. -/
def fnExactCountSquaresSpec : ChangeSpec := { name := "fnExactCountSquares", fn := fun _ => fun
  | [d] => { results := [.lit (.bool true)], args := [d] }
  | _ => none }
def fnExactCountSquaresRow : OpenClaim := { program := "ytpklppnkhkjjeaa", sum := "a941d44c52fd4f9155a752747faf5a53a3eb13ae7c2425a7ddb9d6c6a05b1905", func := "loop.example/g00928/laws.FnExactCountSquares", spec := "fnExactCountSquares", apart := false }
def FnExactCountSquaresSaid : Prop := fnExactCountSquaresRow.holds Try.pinned (OpenSpec.ofChange fnExactCountSquaresSpec)

/-- ITS FALSE NEIGHBOUR: 'it returns false'. Refute it at one input. -/
def fnExactCountSquaresWrong : ChangeSpec := { name := "fnExactCountSquares", fn := fun _ => fun
  | [d] => { results := [.lit (.bool false)], args := [d] }
  | _ => none }
def FnExactCountSquaresWrongFalsely : Prop := fnExactCountSquaresRow.holds Try.pinned (OpenSpec.ofChange fnExactCountSquaresWrong)

/-- 'laws.FnExactNamesFrom': WHATEVER THE INPUT: true; the input reads as it did. -/
def fnExactNamesFromSpec : ChangeSpec := { name := "fnExactNamesFrom", fn := fun _ => fun
  | [d1, d2] => { results := [.lit (.bool true)], args := [d1, d2] }
  | _ => none }
def fnExactNamesFromRow : OpenClaim := { program := "ytpklppnkhkjjeaa", sum := "a941d44c52fd4f9155a752747faf5a53a3eb13ae7c2425a7ddb9d6c6a05b1905", func := "loop.example/g00928/laws.FnExactNamesFrom", spec := "fnExactNamesFrom", apart := false }
def FnExactNamesFromSaid : Prop := fnExactNamesFromRow.holds Try.pinned (OpenSpec.ofChange fnExactNamesFromSpec)

/-- ITS FALSE NEIGHBOUR: 'it returns false'. Refute it at one input. -/
def fnExactNamesFromWrong : ChangeSpec := { name := "fnExactNamesFrom", fn := fun _ => fun
  | [d1, d2] => { results := [.lit (.bool false)], args := [d1, d2] }
  | _ => none }
def FnExactNamesFromWrongFalsely : Prop := fnExactNamesFromRow.holds Try.pinned (OpenSpec.ofChange fnExactNamesFromWrong)

/-- 'laws.FnExactRenameSurface': WHATEVER THE INPUT: true; the input reads as it did. -/
def fnExactRenameSurfaceSpec : ChangeSpec := { name := "fnExactRenameSurface", fn := fun _ => fun
  | [d1, d2] => { results := [.lit (.bool true)], args := [d1, d2] }
  | _ => none }
def fnExactRenameSurfaceRow : OpenClaim := { program := "ytpklppnkhkjjeaa", sum := "a941d44c52fd4f9155a752747faf5a53a3eb13ae7c2425a7ddb9d6c6a05b1905", func := "loop.example/g00928/laws.FnExactRenameSurface", spec := "fnExactRenameSurface", apart := false }
def FnExactRenameSurfaceSaid : Prop := fnExactRenameSurfaceRow.holds Try.pinned (OpenSpec.ofChange fnExactRenameSurfaceSpec)

/-- ITS FALSE NEIGHBOUR: 'it returns false'. Refute it at one input. -/
def fnExactRenameSurfaceWrong : ChangeSpec := { name := "fnExactRenameSurface", fn := fun _ => fun
  | [d1, d2] => { results := [.lit (.bool false)], args := [d1, d2] }
  | _ => none }
def FnExactRenameSurfaceWrongFalsely : Prop := fnExactRenameSurfaceRow.holds Try.pinned (OpenSpec.ofChange fnExactRenameSurfaceWrong)

/-- 'laws.FnExactCanonOf': WHATEVER THE INPUT: true; the input reads as it did. -/
def fnExactCanonOfSpec : ChangeSpec := { name := "fnExactCanonOf", fn := fun _ => fun
  | [d] => { results := [.lit (.bool true)], args := [d] }
  | _ => none }
def fnExactCanonOfRow : OpenClaim := { program := "ytpklppnkhkjjeaa", sum := "a941d44c52fd4f9155a752747faf5a53a3eb13ae7c2425a7ddb9d6c6a05b1905", func := "loop.example/g00928/laws.FnExactCanonOf", spec := "fnExactCanonOf", apart := false }
def FnExactCanonOfSaid : Prop := fnExactCanonOfRow.holds Try.pinned (OpenSpec.ofChange fnExactCanonOfSpec)

/-- ITS FALSE NEIGHBOUR: 'it returns false'. Refute it at one input. -/
def fnExactCanonOfWrong : ChangeSpec := { name := "fnExactCanonOf", fn := fun _ => fun
  | [d] => { results := [.lit (.bool false)], args := [d] }
  | _ => none }
def FnExactCanonOfWrongFalsely : Prop := fnExactCanonOfRow.holds Try.pinned (OpenSpec.ofChange fnExactCanonOfWrong)

/-- 'laws.FnExactSameSurface': WHATEVER THE INPUT: true; the input reads as it did. -/
def fnExactSameSurfaceSpec : ChangeSpec := { name := "fnExactSameSurface", fn := fun _ => fun
  | [d1, d2] => { results := [.lit (.bool true)], args := [d1, d2] }
  | _ => none }
def fnExactSameSurfaceRow : OpenClaim := { program := "ytpklppnkhkjjeaa", sum := "a941d44c52fd4f9155a752747faf5a53a3eb13ae7c2425a7ddb9d6c6a05b1905", func := "loop.example/g00928/laws.FnExactSameSurface", spec := "fnExactSameSurface", apart := false }
def FnExactSameSurfaceSaid : Prop := fnExactSameSurfaceRow.holds Try.pinned (OpenSpec.ofChange fnExactSameSurfaceSpec)

/-- ITS FALSE NEIGHBOUR: 'it returns false'. Refute it at one input. -/
def fnExactSameSurfaceWrong : ChangeSpec := { name := "fnExactSameSurface", fn := fun _ => fun
  | [d1, d2] => { results := [.lit (.bool false)], args := [d1, d2] }
  | _ => none }
def FnExactSameSurfaceWrongFalsely : Prop := fnExactSameSurfaceRow.holds Try.pinned (OpenSpec.ofChange fnExactSameSurfaceWrong)

/-- 'laws.FnExactAreIsomorphic': WHATEVER THE INPUT: true; the input reads as it did. -/
def fnExactAreIsomorphicSpec : ChangeSpec := { name := "fnExactAreIsomorphic", fn := fun _ => fun
  | [d1, d2] => { results := [.lit (.bool true)], args := [d1, d2] }
  | _ => none }
def fnExactAreIsomorphicRow : OpenClaim := { program := "ytpklppnkhkjjeaa", sum := "a941d44c52fd4f9155a752747faf5a53a3eb13ae7c2425a7ddb9d6c6a05b1905", func := "loop.example/g00928/laws.FnExactAreIsomorphic", spec := "fnExactAreIsomorphic", apart := false }
def FnExactAreIsomorphicSaid : Prop := fnExactAreIsomorphicRow.holds Try.pinned (OpenSpec.ofChange fnExactAreIsomorphicSpec)

/-- ITS FALSE NEIGHBOUR: 'it returns false'. Refute it at one input. -/
def fnExactAreIsomorphicWrong : ChangeSpec := { name := "fnExactAreIsomorphic", fn := fun _ => fun
  | [d1, d2] => { results := [.lit (.bool false)], args := [d1, d2] }
  | _ => none }
def FnExactAreIsomorphicWrongFalsely : Prop := fnExactAreIsomorphicRow.holds Try.pinned (OpenSpec.ofChange fnExactAreIsomorphicWrong)

/-- 'laws.FnExactCountSymmetries': WHATEVER THE INPUT: true; the input reads as it did. -/
def fnExactCountSymmetriesSpec : ChangeSpec := { name := "fnExactCountSymmetries", fn := fun _ => fun
  | [d] => { results := [.lit (.bool true)], args := [d] }
  | _ => none }
def fnExactCountSymmetriesRow : OpenClaim := { program := "ytpklppnkhkjjeaa", sum := "a941d44c52fd4f9155a752747faf5a53a3eb13ae7c2425a7ddb9d6c6a05b1905", func := "loop.example/g00928/laws.FnExactCountSymmetries", spec := "fnExactCountSymmetries", apart := false }
def FnExactCountSymmetriesSaid : Prop := fnExactCountSymmetriesRow.holds Try.pinned (OpenSpec.ofChange fnExactCountSymmetriesSpec)

/-- ITS FALSE NEIGHBOUR: 'it returns false'. Refute it at one input. -/
def fnExactCountSymmetriesWrong : ChangeSpec := { name := "fnExactCountSymmetries", fn := fun _ => fun
  | [d] => { results := [.lit (.bool false)], args := [d] }
  | _ => none }
def FnExactCountSymmetriesWrongFalsely : Prop := fnExactCountSymmetriesRow.holds Try.pinned (OpenSpec.ofChange fnExactCountSymmetriesWrong)

/-- 'laws.FnExactTorusOf': WHATEVER THE INPUT: true; the input reads as it did. -/
def fnExactTorusOfSpec : ChangeSpec := { name := "fnExactTorusOf", fn := fun _ => fun
  | [d1, d2] => { results := [.lit (.bool true)], args := [d1, d2] }
  | _ => none }
def fnExactTorusOfRow : OpenClaim := { program := "ytpklppnkhkjjeaa", sum := "a941d44c52fd4f9155a752747faf5a53a3eb13ae7c2425a7ddb9d6c6a05b1905", func := "loop.example/g00928/laws.FnExactTorusOf", spec := "fnExactTorusOf", apart := false }
def FnExactTorusOfSaid : Prop := fnExactTorusOfRow.holds Try.pinned (OpenSpec.ofChange fnExactTorusOfSpec)

/-- ITS FALSE NEIGHBOUR: 'it returns false'. Refute it at one input. -/
def fnExactTorusOfWrong : ChangeSpec := { name := "fnExactTorusOf", fn := fun _ => fun
  | [d1, d2] => { results := [.lit (.bool false)], args := [d1, d2] }
  | _ => none }
def FnExactTorusOfWrongFalsely : Prop := fnExactTorusOfRow.holds Try.pinned (OpenSpec.ofChange fnExactTorusOfWrong)

/-- 'laws.FnExactEllOf': WHATEVER THE INPUT: true; the input reads as it did. -/
def fnExactEllOfSpec : ChangeSpec := { name := "fnExactEllOf", fn := fun _ => fun
  | [d1, d2] => { results := [.lit (.bool true)], args := [d1, d2] }
  | _ => none }
def fnExactEllOfRow : OpenClaim := { program := "ytpklppnkhkjjeaa", sum := "a941d44c52fd4f9155a752747faf5a53a3eb13ae7c2425a7ddb9d6c6a05b1905", func := "loop.example/g00928/laws.FnExactEllOf", spec := "fnExactEllOf", apart := false }
def FnExactEllOfSaid : Prop := fnExactEllOfRow.holds Try.pinned (OpenSpec.ofChange fnExactEllOfSpec)

/-- ITS FALSE NEIGHBOUR: 'it returns false'. Refute it at one input. -/
def fnExactEllOfWrong : ChangeSpec := { name := "fnExactEllOf", fn := fun _ => fun
  | [d1, d2] => { results := [.lit (.bool false)], args := [d1, d2] }
  | _ => none }
def FnExactEllOfWrongFalsely : Prop := fnExactEllOfRow.holds Try.pinned (OpenSpec.ofChange fnExactEllOfWrong)

/- THE SECOND FORM. 'bulk': how many values and letters a reading holds, each counted each time it is reached (what is shared counts as often as it is met; a slice's spare places count too). A statement '..UptoSaid' is the law's where the arguments, and the package variables that the reading takes, are together of bulk at most 1048576: NARROWER than '..Said'. Prove '..Said' where nothing that the law and all that it calls make is longer than what came in: it says more and counts as full. Else prove '..UptoSaid'. A law counts once. -/
mutual
def uptoBulk {H : Type} : DataW H → Nat
  | .lit (.string bytes) => bytes.length + 1
  | .lit _ => 1
  | .nil => 1
  | .ptr d => uptoBulk d + 1
  | .slice elems spare => uptoBulkAll elems + uptoBulkAll spare + 1
  | .agg parts => uptoBulkAll parts + 1
  | .iface _ d => uptoBulk d + 1
  | .map entries => uptoBulkEntries entries + 1
  | .held _ => 1
def uptoBulkAll {H : Type} : List (DataW H) → Nat
  | [] => 0
  | d :: r => uptoBulk d + uptoBulkAll r
def uptoBulkEntries {H : Type} : List (Lit × DataW H) → Nat
  | [] => 0
  | x :: r => uptoBulkEntry x + uptoBulkEntries r
def uptoBulkEntry {H : Type} : Lit × DataW H → Nat
  | (.string bytes, d) => bytes.length + uptoBulk d + 1
  | (_, d) => uptoBulk d + 1
 end
def uptoSmall : (H : Type) → List (DataW H) → Bool := fun _ ds => decide (uptoBulkAll ds ≤ 1048576)
def OpenSpec.upto (s : _root_.Go.ChangeSpec) : _root_.Go.OpenSpec := { _root_.Go.OpenSpec.ofChange s with cond := some uptoSmall }

/-- 'laws.FnCanon', WHERE WHAT IT READS IS OF BULK AT MOST 1048576: true; the input reads as it did. -/
def fnCanonUptoRow : OpenClaim := { program := "ytpklppnkhkjjeaa", sum := "a941d44c52fd4f9155a752747faf5a53a3eb13ae7c2425a7ddb9d6c6a05b1905", func := "loop.example/g00928/laws.FnCanon", spec := "fnCanon", apart := false, narrowed := true }
def FnCanonUptoSaid : Prop := fnCanonUptoRow.holds Try.pinned (OpenSpec.upto fnCanonSpec)

/-- 'laws.FnExactSurfaceOk', WHERE WHAT IT READS IS OF BULK AT MOST 1048576: true; the input reads as it did. -/
def fnExactSurfaceOkUptoRow : OpenClaim := { program := "ytpklppnkhkjjeaa", sum := "a941d44c52fd4f9155a752747faf5a53a3eb13ae7c2425a7ddb9d6c6a05b1905", func := "loop.example/g00928/laws.FnExactSurfaceOk", spec := "fnExactSurfaceOk", apart := false, narrowed := true }
def FnExactSurfaceOkUptoSaid : Prop := fnExactSurfaceOkUptoRow.holds Try.pinned (OpenSpec.upto fnExactSurfaceOkSpec)

/-- 'laws.FnExactCountSquares', WHERE WHAT IT READS IS OF BULK AT MOST 1048576: true; the input reads as it did. -/
def fnExactCountSquaresUptoRow : OpenClaim := { program := "ytpklppnkhkjjeaa", sum := "a941d44c52fd4f9155a752747faf5a53a3eb13ae7c2425a7ddb9d6c6a05b1905", func := "loop.example/g00928/laws.FnExactCountSquares", spec := "fnExactCountSquares", apart := false, narrowed := true }
def FnExactCountSquaresUptoSaid : Prop := fnExactCountSquaresUptoRow.holds Try.pinned (OpenSpec.upto fnExactCountSquaresSpec)

/-- 'laws.FnExactNamesFrom', WHERE WHAT IT READS IS OF BULK AT MOST 1048576: true; the input reads as it did. -/
def fnExactNamesFromUptoRow : OpenClaim := { program := "ytpklppnkhkjjeaa", sum := "a941d44c52fd4f9155a752747faf5a53a3eb13ae7c2425a7ddb9d6c6a05b1905", func := "loop.example/g00928/laws.FnExactNamesFrom", spec := "fnExactNamesFrom", apart := false, narrowed := true }
def FnExactNamesFromUptoSaid : Prop := fnExactNamesFromUptoRow.holds Try.pinned (OpenSpec.upto fnExactNamesFromSpec)

/-- 'laws.FnExactRenameSurface', WHERE WHAT IT READS IS OF BULK AT MOST 1048576: true; the input reads as it did. -/
def fnExactRenameSurfaceUptoRow : OpenClaim := { program := "ytpklppnkhkjjeaa", sum := "a941d44c52fd4f9155a752747faf5a53a3eb13ae7c2425a7ddb9d6c6a05b1905", func := "loop.example/g00928/laws.FnExactRenameSurface", spec := "fnExactRenameSurface", apart := false, narrowed := true }
def FnExactRenameSurfaceUptoSaid : Prop := fnExactRenameSurfaceUptoRow.holds Try.pinned (OpenSpec.upto fnExactRenameSurfaceSpec)

/-- 'laws.FnExactCanonOf', WHERE WHAT IT READS IS OF BULK AT MOST 1048576: true; the input reads as it did. -/
def fnExactCanonOfUptoRow : OpenClaim := { program := "ytpklppnkhkjjeaa", sum := "a941d44c52fd4f9155a752747faf5a53a3eb13ae7c2425a7ddb9d6c6a05b1905", func := "loop.example/g00928/laws.FnExactCanonOf", spec := "fnExactCanonOf", apart := false, narrowed := true }
def FnExactCanonOfUptoSaid : Prop := fnExactCanonOfUptoRow.holds Try.pinned (OpenSpec.upto fnExactCanonOfSpec)

/-- 'laws.FnExactSameSurface', WHERE WHAT IT READS IS OF BULK AT MOST 1048576: true; the input reads as it did. -/
def fnExactSameSurfaceUptoRow : OpenClaim := { program := "ytpklppnkhkjjeaa", sum := "a941d44c52fd4f9155a752747faf5a53a3eb13ae7c2425a7ddb9d6c6a05b1905", func := "loop.example/g00928/laws.FnExactSameSurface", spec := "fnExactSameSurface", apart := false, narrowed := true }
def FnExactSameSurfaceUptoSaid : Prop := fnExactSameSurfaceUptoRow.holds Try.pinned (OpenSpec.upto fnExactSameSurfaceSpec)

/-- 'laws.FnExactAreIsomorphic', WHERE WHAT IT READS IS OF BULK AT MOST 1048576: true; the input reads as it did. -/
def fnExactAreIsomorphicUptoRow : OpenClaim := { program := "ytpklppnkhkjjeaa", sum := "a941d44c52fd4f9155a752747faf5a53a3eb13ae7c2425a7ddb9d6c6a05b1905", func := "loop.example/g00928/laws.FnExactAreIsomorphic", spec := "fnExactAreIsomorphic", apart := false, narrowed := true }
def FnExactAreIsomorphicUptoSaid : Prop := fnExactAreIsomorphicUptoRow.holds Try.pinned (OpenSpec.upto fnExactAreIsomorphicSpec)

/-- 'laws.FnExactCountSymmetries', WHERE WHAT IT READS IS OF BULK AT MOST 1048576: true; the input reads as it did. -/
def fnExactCountSymmetriesUptoRow : OpenClaim := { program := "ytpklppnkhkjjeaa", sum := "a941d44c52fd4f9155a752747faf5a53a3eb13ae7c2425a7ddb9d6c6a05b1905", func := "loop.example/g00928/laws.FnExactCountSymmetries", spec := "fnExactCountSymmetries", apart := false, narrowed := true }
def FnExactCountSymmetriesUptoSaid : Prop := fnExactCountSymmetriesUptoRow.holds Try.pinned (OpenSpec.upto fnExactCountSymmetriesSpec)

/-- 'laws.FnExactTorusOf', WHERE WHAT IT READS IS OF BULK AT MOST 1048576: true; the input reads as it did. -/
def fnExactTorusOfUptoRow : OpenClaim := { program := "ytpklppnkhkjjeaa", sum := "a941d44c52fd4f9155a752747faf5a53a3eb13ae7c2425a7ddb9d6c6a05b1905", func := "loop.example/g00928/laws.FnExactTorusOf", spec := "fnExactTorusOf", apart := false, narrowed := true }
def FnExactTorusOfUptoSaid : Prop := fnExactTorusOfUptoRow.holds Try.pinned (OpenSpec.upto fnExactTorusOfSpec)

/-- 'laws.FnExactEllOf', WHERE WHAT IT READS IS OF BULK AT MOST 1048576: true; the input reads as it did. -/
def fnExactEllOfUptoRow : OpenClaim := { program := "ytpklppnkhkjjeaa", sum := "a941d44c52fd4f9155a752747faf5a53a3eb13ae7c2425a7ddb9d6c6a05b1905", func := "loop.example/g00928/laws.FnExactEllOf", spec := "fnExactEllOf", apart := false, narrowed := true }
def FnExactEllOfUptoSaid : Prop := fnExactEllOfUptoRow.holds Try.pinned (OpenSpec.upto fnExactEllOfSpec)

end Rows
end Go.Proofs.Ytpklppnkhkjjeaa

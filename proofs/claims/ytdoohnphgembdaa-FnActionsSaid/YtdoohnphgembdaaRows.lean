/-
  No cell of these rows narrows 'for every input' (looked for: loops, veiled, ifaces, maps, wideKeys, modest, calm, conditions, laid).
  DERIVED. THE GIVEN ROWS OF THIS SEAT. 10 by the template 'for every input the law returns true; each argument reads behind the call as it read before'; 0 by the template 'total and deterministic' (their statements: YtdoohnphgembdaaTotals.lean).
  GIVEN WITH THE SEED: the statements are not yours to turn. If you find one false, say at which input.
  Laid BY PROGRAM, IN A SANDBOX (cutbox-rows.mjs): the forced cells as the released guide's own fill.sh prints them over the translation 51b9cecb3e833238… (all of the seat's roots in one cut). By AI agents, Wed Nov 11 2026. No macro, syntax, notation, axiom, sorry.
-/
import Derived.Test.YtdoohnphgembdaaChecked
import GoSem.Claim
import GoSem.ClaimJoined
import GoSem.ClaimMapViews
import Derived.JoinedTies
import Derived.KernelRfl
namespace Go.Proofs.Ytdoohnphgembdaa
/- THE CELL 'sum', in the pinned program and in every row, IS THE sha256 OF THE DUMP (.gsa) THAT YtdoohnphgembdaaProg.lean LOADS. Nothing in Lean hashes anything: it is a label: what it is worth is what the hold of that sum in a sandbox is worth. -/
noncomputable def Try.pinned : Pinned := { name := "ytdoohnphgembdaa", sum := "51b9cecb3e83323841609655d993684fe172f9d99b76fdb676b93a5460ea25a1", checked := Try.checked }
namespace Rows
def none {H : Type} : Left H := { results := [], args := [] }

/-- 'laws.FnActions': WHATEVER THE INPUT: true; the input reads as it did. -/
def fnActionsSpec : ChangeSpec := { name := "fnActions", fn := fun _ => fun
  | [d] => { results := [.lit (.bool true)], args := [d] }
  | _ => none }
def fnActionsRow : OpenClaim := { program := "ytdoohnphgembdaa", sum := "51b9cecb3e83323841609655d993684fe172f9d99b76fdb676b93a5460ea25a1", func := "loop.example/g00928/laws.FnActions", spec := "fnActions", inPlace := ["internal/bytealg.IndexByteString"], unfollowed := true, recurses := true, apart := false }
def FnActionsSaid : Prop := fnActionsRow.holds Try.pinned (OpenSpec.ofChange fnActionsSpec)

/-- ITS FALSE NEIGHBOUR: 'it returns false'. Refute it at one input. -/
def fnActionsWrong : ChangeSpec := { name := "fnActions", fn := fun _ => fun
  | [d] => { results := [.lit (.bool false)], args := [d] }
  | _ => none }
def FnActionsWrongFalsely : Prop := fnActionsRow.holds Try.pinned (OpenSpec.ofChange fnActionsWrong)

/-- 'laws.FnExactShearSurface': WHATEVER THE INPUT: true; the input reads as it did. -/
def fnExactShearSurfaceSpec : ChangeSpec := { name := "fnExactShearSurface", fn := fun _ => fun
  | [d] => { results := [.lit (.bool true)], args := [d] }
  | _ => none }
def fnExactShearSurfaceRow : OpenClaim := { program := "ytdoohnphgembdaa", sum := "51b9cecb3e83323841609655d993684fe172f9d99b76fdb676b93a5460ea25a1", func := "loop.example/g00928/laws.FnExactShearSurface", spec := "fnExactShearSurface", unfollowed := true, recurses := true, apart := false }
def FnExactShearSurfaceSaid : Prop := fnExactShearSurfaceRow.holds Try.pinned (OpenSpec.ofChange fnExactShearSurfaceSpec)

/-- ITS FALSE NEIGHBOUR: 'it returns false'. Refute it at one input. -/
def fnExactShearSurfaceWrong : ChangeSpec := { name := "fnExactShearSurface", fn := fun _ => fun
  | [d] => { results := [.lit (.bool false)], args := [d] }
  | _ => none }
def FnExactShearSurfaceWrongFalsely : Prop := fnExactShearSurfaceRow.holds Try.pinned (OpenSpec.ofChange fnExactShearSurfaceWrong)

/-- 'laws.FnExactUnshearSurface': WHATEVER THE INPUT: true; the input reads as it did. -/
def fnExactUnshearSurfaceSpec : ChangeSpec := { name := "fnExactUnshearSurface", fn := fun _ => fun
  | [d] => { results := [.lit (.bool true)], args := [d] }
  | _ => none }
def fnExactUnshearSurfaceRow : OpenClaim := { program := "ytdoohnphgembdaa", sum := "51b9cecb3e83323841609655d993684fe172f9d99b76fdb676b93a5460ea25a1", func := "loop.example/g00928/laws.FnExactUnshearSurface", spec := "fnExactUnshearSurface", unfollowed := true, recurses := true, apart := false }
def FnExactUnshearSurfaceSaid : Prop := fnExactUnshearSurfaceRow.holds Try.pinned (OpenSpec.ofChange fnExactUnshearSurfaceSpec)

/-- ITS FALSE NEIGHBOUR: 'it returns false'. Refute it at one input. -/
def fnExactUnshearSurfaceWrong : ChangeSpec := { name := "fnExactUnshearSurface", fn := fun _ => fun
  | [d] => { results := [.lit (.bool false)], args := [d] }
  | _ => none }
def FnExactUnshearSurfaceWrongFalsely : Prop := fnExactUnshearSurfaceRow.holds Try.pinned (OpenSpec.ofChange fnExactUnshearSurfaceWrong)

/-- 'laws.FnExactTurnSurface': WHATEVER THE INPUT: true; the input reads as it did. -/
def fnExactTurnSurfaceSpec : ChangeSpec := { name := "fnExactTurnSurface", fn := fun _ => fun
  | [d] => { results := [.lit (.bool true)], args := [d] }
  | _ => none }
def fnExactTurnSurfaceRow : OpenClaim := { program := "ytdoohnphgembdaa", sum := "51b9cecb3e83323841609655d993684fe172f9d99b76fdb676b93a5460ea25a1", func := "loop.example/g00928/laws.FnExactTurnSurface", spec := "fnExactTurnSurface", unfollowed := true, recurses := true, apart := false }
def FnExactTurnSurfaceSaid : Prop := fnExactTurnSurfaceRow.holds Try.pinned (OpenSpec.ofChange fnExactTurnSurfaceSpec)

/-- ITS FALSE NEIGHBOUR: 'it returns false'. Refute it at one input. -/
def fnExactTurnSurfaceWrong : ChangeSpec := { name := "fnExactTurnSurface", fn := fun _ => fun
  | [d] => { results := [.lit (.bool false)], args := [d] }
  | _ => none }
def FnExactTurnSurfaceWrongFalsely : Prop := fnExactTurnSurfaceRow.holds Try.pinned (OpenSpec.ofChange fnExactTurnSurfaceWrong)

/-- 'laws.FnExactUnturnSurface': WHATEVER THE INPUT: true; the input reads as it did. -/
def fnExactUnturnSurfaceSpec : ChangeSpec := { name := "fnExactUnturnSurface", fn := fun _ => fun
  | [d] => { results := [.lit (.bool true)], args := [d] }
  | _ => none }
def fnExactUnturnSurfaceRow : OpenClaim := { program := "ytdoohnphgembdaa", sum := "51b9cecb3e83323841609655d993684fe172f9d99b76fdb676b93a5460ea25a1", func := "loop.example/g00928/laws.FnExactUnturnSurface", spec := "fnExactUnturnSurface", unfollowed := true, recurses := true, apart := false }
def FnExactUnturnSurfaceSaid : Prop := fnExactUnturnSurfaceRow.holds Try.pinned (OpenSpec.ofChange fnExactUnturnSurfaceSpec)

/-- ITS FALSE NEIGHBOUR: 'it returns false'. Refute it at one input. -/
def fnExactUnturnSurfaceWrong : ChangeSpec := { name := "fnExactUnturnSurface", fn := fun _ => fun
  | [d] => { results := [.lit (.bool false)], args := [d] }
  | _ => none }
def FnExactUnturnSurfaceWrongFalsely : Prop := fnExactUnturnSurfaceRow.holds Try.pinned (OpenSpec.ofChange fnExactUnturnSurfaceWrong)

/-- 'laws.FnExactWordOk': WHATEVER THE INPUT: true; the input reads as it did. -/
def fnExactWordOkSpec : ChangeSpec := { name := "fnExactWordOk", fn := fun _ => fun
  | [d] => { results := [.lit (.bool true)], args := [d] }
  | _ => none }
def fnExactWordOkRow : OpenClaim := { program := "ytdoohnphgembdaa", sum := "51b9cecb3e83323841609655d993684fe172f9d99b76fdb676b93a5460ea25a1", func := "loop.example/g00928/laws.FnExactWordOk", spec := "fnExactWordOk", inPlace := ["internal/bytealg.IndexByteString"], apart := false }
def FnExactWordOkSaid : Prop := fnExactWordOkRow.holds Try.pinned (OpenSpec.ofChange fnExactWordOkSpec)

/-- ITS FALSE NEIGHBOUR: 'it returns false'. Refute it at one input. -/
def fnExactWordOkWrong : ChangeSpec := { name := "fnExactWordOk", fn := fun _ => fun
  | [d] => { results := [.lit (.bool false)], args := [d] }
  | _ => none }
def FnExactWordOkWrongFalsely : Prop := fnExactWordOkRow.holds Try.pinned (OpenSpec.ofChange fnExactWordOkWrong)

/-- 'laws.FnExactRunWord': WHATEVER THE INPUT: true; the input reads as it did. -/
def fnExactRunWordSpec : ChangeSpec := { name := "fnExactRunWord", fn := fun _ => fun
  | [d1, d2] => { results := [.lit (.bool true)], args := [d1, d2] }
  | _ => none }
def fnExactRunWordRow : OpenClaim := { program := "ytdoohnphgembdaa", sum := "51b9cecb3e83323841609655d993684fe172f9d99b76fdb676b93a5460ea25a1", func := "loop.example/g00928/laws.FnExactRunWord", spec := "fnExactRunWord", inPlace := ["internal/bytealg.IndexByteString"], unfollowed := true, recurses := true, apart := false }
def FnExactRunWordSaid : Prop := fnExactRunWordRow.holds Try.pinned (OpenSpec.ofChange fnExactRunWordSpec)

/-- ITS FALSE NEIGHBOUR: 'it returns false'. Refute it at one input. -/
def fnExactRunWordWrong : ChangeSpec := { name := "fnExactRunWord", fn := fun _ => fun
  | [d1, d2] => { results := [.lit (.bool false)], args := [d1, d2] }
  | _ => none }
def FnExactRunWordWrongFalsely : Prop := fnExactRunWordRow.holds Try.pinned (OpenSpec.ofChange fnExactRunWordWrong)

/-- 'laws.FnExactInverseWord': WHATEVER THE INPUT: true; the input reads as it did. -/
def fnExactInverseWordSpec : ChangeSpec := { name := "fnExactInverseWord", fn := fun _ => fun
  | [d] => { results := [.lit (.bool true)], args := [d] }
  | _ => none }
def fnExactInverseWordRow : OpenClaim := { program := "ytdoohnphgembdaa", sum := "51b9cecb3e83323841609655d993684fe172f9d99b76fdb676b93a5460ea25a1", func := "loop.example/g00928/laws.FnExactInverseWord", spec := "fnExactInverseWord", inPlace := ["internal/bytealg.IndexByteString"], unfollowed := true, recurses := true, apart := false }
def FnExactInverseWordSaid : Prop := fnExactInverseWordRow.holds Try.pinned (OpenSpec.ofChange fnExactInverseWordSpec)

/-- ITS FALSE NEIGHBOUR: 'it returns false'. Refute it at one input. -/
def fnExactInverseWordWrong : ChangeSpec := { name := "fnExactInverseWord", fn := fun _ => fun
  | [d] => { results := [.lit (.bool false)], args := [d] }
  | _ => none }
def FnExactInverseWordWrongFalsely : Prop := fnExactInverseWordRow.holds Try.pinned (OpenSpec.ofChange fnExactInverseWordWrong)

/-- 'laws.FnExactTimesMatrix': WHATEVER THE INPUT: true; the input reads as it did. -/
def fnExactTimesMatrixSpec : ChangeSpec := { name := "fnExactTimesMatrix", fn := fun _ => fun
  | [d1, d2] => { results := [.lit (.bool true)], args := [d1, d2] }
  | _ => none }
def fnExactTimesMatrixRow : OpenClaim := { program := "ytdoohnphgembdaa", sum := "51b9cecb3e83323841609655d993684fe172f9d99b76fdb676b93a5460ea25a1", func := "loop.example/g00928/laws.FnExactTimesMatrix", spec := "fnExactTimesMatrix", apart := false }
def FnExactTimesMatrixSaid : Prop := fnExactTimesMatrixRow.holds Try.pinned (OpenSpec.ofChange fnExactTimesMatrixSpec)

/-- ITS FALSE NEIGHBOUR: 'it returns false'. Refute it at one input. -/
def fnExactTimesMatrixWrong : ChangeSpec := { name := "fnExactTimesMatrix", fn := fun _ => fun
  | [d1, d2] => { results := [.lit (.bool false)], args := [d1, d2] }
  | _ => none }
def FnExactTimesMatrixWrongFalsely : Prop := fnExactTimesMatrixRow.holds Try.pinned (OpenSpec.ofChange fnExactTimesMatrixWrong)

/-- 'laws.FnExactDeterminantOf': WHATEVER THE INPUT: true; the input reads as it did. -/
def fnExactDeterminantOfSpec : ChangeSpec := { name := "fnExactDeterminantOf", fn := fun _ => fun
  | [d] => { results := [.lit (.bool true)], args := [d] }
  | _ => none }
def fnExactDeterminantOfRow : OpenClaim := { program := "ytdoohnphgembdaa", sum := "51b9cecb3e83323841609655d993684fe172f9d99b76fdb676b93a5460ea25a1", func := "loop.example/g00928/laws.FnExactDeterminantOf", spec := "fnExactDeterminantOf", apart := false }
def FnExactDeterminantOfSaid : Prop := fnExactDeterminantOfRow.holds Try.pinned (OpenSpec.ofChange fnExactDeterminantOfSpec)

/-- ITS FALSE NEIGHBOUR: 'it returns false'. Refute it at one input. -/
def fnExactDeterminantOfWrong : ChangeSpec := { name := "fnExactDeterminantOf", fn := fun _ => fun
  | [d] => { results := [.lit (.bool false)], args := [d] }
  | _ => none }
def FnExactDeterminantOfWrongFalsely : Prop := fnExactDeterminantOfRow.holds Try.pinned (OpenSpec.ofChange fnExactDeterminantOfWrong)

/- THE SECOND FORM. 'bulk': how many values and letters a reading holds, each counted each time it is reached (what is shared counts as often as it is met; a slice's spare places count too). A statement '..UptoSaid' is the law's where the arguments, and the package variables that the reading takes, are together of bulk at most 1048576: NARROWER than '..Said'. Prove '..Said' where nothing that the law and all that it calls make is longer than what came in: it says more and counts as full. Else prove '..UptoSaid'. A law counts once. -/
mutual
def uptoBulk {H : Type} : DataW H → Nat
  | .lit (.string bytes) => bytes.length + 1
  | .lit _ => 1
  | .nil => 1
  | .ptr d => uptoBulk d + 1
  | .slice elems spare => uptoBulkAll elems + uptoBulkAll spare + 1
  | .agg parts => uptoBulkAll parts + 1
  | .iface _ d => uptoBulk d + 1
  | .map entries => uptoBulkEntries entries + 1
  | .held _ => 1
def uptoBulkAll {H : Type} : List (DataW H) → Nat
  | [] => 0
  | d :: r => uptoBulk d + uptoBulkAll r
def uptoBulkEntries {H : Type} : List (Lit × DataW H) → Nat
  | [] => 0
  | x :: r => uptoBulkEntry x + uptoBulkEntries r
def uptoBulkEntry {H : Type} : Lit × DataW H → Nat
  | (.string bytes, d) => bytes.length + uptoBulk d + 1
  | (_, d) => uptoBulk d + 1
 end
def uptoSmall : (H : Type) → List (DataW H) → Bool := fun _ ds => decide (uptoBulkAll ds ≤ 1048576)
def OpenSpec.upto (s : _root_.Go.ChangeSpec) : _root_.Go.OpenSpec := { _root_.Go.OpenSpec.ofChange s with cond := some uptoSmall }

/-- 'laws.FnActions', WHERE WHAT IT READS IS OF BULK AT MOST 1048576: true; the input reads as it did. -/
def fnActionsUptoRow : OpenClaim := { program := "ytdoohnphgembdaa", sum := "51b9cecb3e83323841609655d993684fe172f9d99b76fdb676b93a5460ea25a1", func := "loop.example/g00928/laws.FnActions", spec := "fnActions", inPlace := ["internal/bytealg.IndexByteString"], unfollowed := true, recurses := true, apart := false, narrowed := true }
def FnActionsUptoSaid : Prop := fnActionsUptoRow.holds Try.pinned (OpenSpec.upto fnActionsSpec)

/-- 'laws.FnExactShearSurface', WHERE WHAT IT READS IS OF BULK AT MOST 1048576: true; the input reads as it did. -/
def fnExactShearSurfaceUptoRow : OpenClaim := { program := "ytdoohnphgembdaa", sum := "51b9cecb3e83323841609655d993684fe172f9d99b76fdb676b93a5460ea25a1", func := "loop.example/g00928/laws.FnExactShearSurface", spec := "fnExactShearSurface", unfollowed := true, recurses := true, apart := false, narrowed := true }
def FnExactShearSurfaceUptoSaid : Prop := fnExactShearSurfaceUptoRow.holds Try.pinned (OpenSpec.upto fnExactShearSurfaceSpec)

/-- 'laws.FnExactUnshearSurface', WHERE WHAT IT READS IS OF BULK AT MOST 1048576: true; the input reads as it did. -/
def fnExactUnshearSurfaceUptoRow : OpenClaim := { program := "ytdoohnphgembdaa", sum := "51b9cecb3e83323841609655d993684fe172f9d99b76fdb676b93a5460ea25a1", func := "loop.example/g00928/laws.FnExactUnshearSurface", spec := "fnExactUnshearSurface", unfollowed := true, recurses := true, apart := false, narrowed := true }
def FnExactUnshearSurfaceUptoSaid : Prop := fnExactUnshearSurfaceUptoRow.holds Try.pinned (OpenSpec.upto fnExactUnshearSurfaceSpec)

/-- 'laws.FnExactTurnSurface', WHERE WHAT IT READS IS OF BULK AT MOST 1048576: true; the input reads as it did. -/
def fnExactTurnSurfaceUptoRow : OpenClaim := { program := "ytdoohnphgembdaa", sum := "51b9cecb3e83323841609655d993684fe172f9d99b76fdb676b93a5460ea25a1", func := "loop.example/g00928/laws.FnExactTurnSurface", spec := "fnExactTurnSurface", unfollowed := true, recurses := true, apart := false, narrowed := true }
def FnExactTurnSurfaceUptoSaid : Prop := fnExactTurnSurfaceUptoRow.holds Try.pinned (OpenSpec.upto fnExactTurnSurfaceSpec)

/-- 'laws.FnExactUnturnSurface', WHERE WHAT IT READS IS OF BULK AT MOST 1048576: true; the input reads as it did. -/
def fnExactUnturnSurfaceUptoRow : OpenClaim := { program := "ytdoohnphgembdaa", sum := "51b9cecb3e83323841609655d993684fe172f9d99b76fdb676b93a5460ea25a1", func := "loop.example/g00928/laws.FnExactUnturnSurface", spec := "fnExactUnturnSurface", unfollowed := true, recurses := true, apart := false, narrowed := true }
def FnExactUnturnSurfaceUptoSaid : Prop := fnExactUnturnSurfaceUptoRow.holds Try.pinned (OpenSpec.upto fnExactUnturnSurfaceSpec)

/-- 'laws.FnExactWordOk', WHERE WHAT IT READS IS OF BULK AT MOST 1048576: true; the input reads as it did. -/
def fnExactWordOkUptoRow : OpenClaim := { program := "ytdoohnphgembdaa", sum := "51b9cecb3e83323841609655d993684fe172f9d99b76fdb676b93a5460ea25a1", func := "loop.example/g00928/laws.FnExactWordOk", spec := "fnExactWordOk", inPlace := ["internal/bytealg.IndexByteString"], apart := false, narrowed := true }
def FnExactWordOkUptoSaid : Prop := fnExactWordOkUptoRow.holds Try.pinned (OpenSpec.upto fnExactWordOkSpec)

/-- 'laws.FnExactRunWord', WHERE WHAT IT READS IS OF BULK AT MOST 1048576: true; the input reads as it did. -/
def fnExactRunWordUptoRow : OpenClaim := { program := "ytdoohnphgembdaa", sum := "51b9cecb3e83323841609655d993684fe172f9d99b76fdb676b93a5460ea25a1", func := "loop.example/g00928/laws.FnExactRunWord", spec := "fnExactRunWord", inPlace := ["internal/bytealg.IndexByteString"], unfollowed := true, recurses := true, apart := false, narrowed := true }
def FnExactRunWordUptoSaid : Prop := fnExactRunWordUptoRow.holds Try.pinned (OpenSpec.upto fnExactRunWordSpec)

/-- 'laws.FnExactInverseWord', WHERE WHAT IT READS IS OF BULK AT MOST 1048576: true; the input reads as it did. -/
def fnExactInverseWordUptoRow : OpenClaim := { program := "ytdoohnphgembdaa", sum := "51b9cecb3e83323841609655d993684fe172f9d99b76fdb676b93a5460ea25a1", func := "loop.example/g00928/laws.FnExactInverseWord", spec := "fnExactInverseWord", inPlace := ["internal/bytealg.IndexByteString"], unfollowed := true, recurses := true, apart := false, narrowed := true }
def FnExactInverseWordUptoSaid : Prop := fnExactInverseWordUptoRow.holds Try.pinned (OpenSpec.upto fnExactInverseWordSpec)

/-- 'laws.FnExactTimesMatrix', WHERE WHAT IT READS IS OF BULK AT MOST 1048576: true; the input reads as it did. -/
def fnExactTimesMatrixUptoRow : OpenClaim := { program := "ytdoohnphgembdaa", sum := "51b9cecb3e83323841609655d993684fe172f9d99b76fdb676b93a5460ea25a1", func := "loop.example/g00928/laws.FnExactTimesMatrix", spec := "fnExactTimesMatrix", apart := false, narrowed := true }
def FnExactTimesMatrixUptoSaid : Prop := fnExactTimesMatrixUptoRow.holds Try.pinned (OpenSpec.upto fnExactTimesMatrixSpec)

/-- 'laws.FnExactDeterminantOf', WHERE WHAT IT READS IS OF BULK AT MOST 1048576: true; the input reads as it did. -/
def fnExactDeterminantOfUptoRow : OpenClaim := { program := "ytdoohnphgembdaa", sum := "51b9cecb3e83323841609655d993684fe172f9d99b76fdb676b93a5460ea25a1", func := "loop.example/g00928/laws.FnExactDeterminantOf", spec := "fnExactDeterminantOf", apart := false, narrowed := true }
def FnExactDeterminantOfUptoSaid : Prop := fnExactDeterminantOfUptoRow.holds Try.pinned (OpenSpec.upto fnExactDeterminantOfSpec)

end Rows
end Go.Proofs.Ytdoohnphgembdaa

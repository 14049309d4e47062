/-
  No cell of these rows narrows 'for every input' (looked for: loops, veiled, ifaces, maps, wideKeys, modest, calm, conditions, laid).
  DERIVED. THE GIVEN ROWS OF THIS SEAT. 8 by the template 'for every input the law returns true; each argument reads behind the call as it read before'; 0 by the template 'total and deterministic' (their statements: YtajkfkpnjbkhhaaTotals.lean).
  GIVEN WITH THE SEED: the statements are not yours to turn. If you find one false, say at which input.
  Laid BY PROGRAM, IN A SANDBOX (cutbox-rows.mjs): the forced cells as the released guide's own fill.sh prints them over the translation a2d5f8bccd36e35a… (all of the seat's roots in one cut). By AI agents, Wed Nov 11 2026. No macro, syntax, notation, axiom, sorry.
-/
import Derived.Test.YtajkfkpnjbkhhaaChecked
import GoSem.Claim
import GoSem.ClaimJoined
import GoSem.ClaimMapViews
import Derived.JoinedTies
import Derived.KernelRfl
namespace Go.Proofs.Ytajkfkpnjbkhhaa
/- THE CELL 'sum', in the pinned program and in every row, IS THE sha256 OF THE DUMP (.gsa) THAT YtajkfkpnjbkhhaaProg.lean LOADS. Nothing in Lean hashes anything: it is a label: what it is worth is what the hold of that sum in a sandbox is worth. -/
noncomputable def Try.pinned : Pinned := { name := "ytajkfkpnjbkhhaa", sum := "a2d5f8bccd36e35af2da8ea78f6871630cb0c3c95cb12081da4873d576911642", checked := Try.checked }
namespace Rows
def none {H : Type} : Left H := { results := [], args := [] }

/-- 'laws.FnBalls': WHATEVER THE INPUT: true; the input reads as it did. -/
def fnBallsSpec : ChangeSpec := { name := "fnBalls", fn := fun _ => fun
  | [d] => { results := [.lit (.bool true)], args := [d] }
  | _ => none }
def fnBallsRow : OpenClaim := { program := "ytajkfkpnjbkhhaa", sum := "a2d5f8bccd36e35af2da8ea78f6871630cb0c3c95cb12081da4873d576911642", func := "loop.example/g00928/laws.FnBalls", spec := "fnBalls", unfollowed := true, recurses := true, apart := false }
def FnBallsSaid : Prop := fnBallsRow.holds Try.pinned (OpenSpec.ofChange fnBallsSpec)

/-- ITS FALSE NEIGHBOUR: 'it returns false'. Refute it at one input. -/
def fnBallsWrong : ChangeSpec := { name := "fnBalls", fn := fun _ => fun
  | [d] => { results := [.lit (.bool false)], args := [d] }
  | _ => none }
def FnBallsWrongFalsely : Prop := fnBallsRow.holds Try.pinned (OpenSpec.ofChange fnBallsWrong)

/-- 'laws.FnExactBallOk': WHATEVER THE INPUT: true; the input reads as it did. -/
def fnExactBallOkSpec : ChangeSpec := { name := "fnExactBallOk", fn := fun _ => fun
  | [d1, d2, d3] => { results := [.lit (.bool true)], args := [d1, d2, d3] }
  | _ => none }
def fnExactBallOkRow : OpenClaim := { program := "ytajkfkpnjbkhhaa", sum := "a2d5f8bccd36e35af2da8ea78f6871630cb0c3c95cb12081da4873d576911642", func := "loop.example/g00928/laws.FnExactBallOk", spec := "fnExactBallOk", unfollowed := true, recurses := true, apart := false }
def FnExactBallOkSaid : Prop := fnExactBallOkRow.holds Try.pinned (OpenSpec.ofChange fnExactBallOkSpec)

/-- ITS FALSE NEIGHBOUR: 'it returns false'. Refute it at one input. -/
def fnExactBallOkWrong : ChangeSpec := { name := "fnExactBallOk", fn := fun _ => fun
  | [d1, d2, d3] => { results := [.lit (.bool false)], args := [d1, d2, d3] }
  | _ => none }
def FnExactBallOkWrongFalsely : Prop := fnExactBallOkRow.holds Try.pinned (OpenSpec.ofChange fnExactBallOkWrong)

/-- 'laws.FnExactBallStep': WHATEVER THE INPUT: true; the input reads as it did. -/
def fnExactBallStepSpec : ChangeSpec := { name := "fnExactBallStep", fn := fun _ => fun
  | [d1, d2, d3] => { results := [.lit (.bool true)], args := [d1, d2, d3] }
  | _ => none }
def fnExactBallStepRow : OpenClaim := { program := "ytajkfkpnjbkhhaa", sum := "a2d5f8bccd36e35af2da8ea78f6871630cb0c3c95cb12081da4873d576911642", func := "loop.example/g00928/laws.FnExactBallStep", spec := "fnExactBallStep", unfollowed := true, recurses := true, apart := false }
def FnExactBallStepSaid : Prop := fnExactBallStepRow.holds Try.pinned (OpenSpec.ofChange fnExactBallStepSpec)

/-- ITS FALSE NEIGHBOUR: 'it returns false'. Refute it at one input. -/
def fnExactBallStepWrong : ChangeSpec := { name := "fnExactBallStep", fn := fun _ => fun
  | [d1, d2, d3] => { results := [.lit (.bool false)], args := [d1, d2, d3] }
  | _ => none }
def FnExactBallStepWrongFalsely : Prop := fnExactBallStepRow.holds Try.pinned (OpenSpec.ofChange fnExactBallStepWrong)

/-- 'laws.FnExactBallAfter': WHATEVER THE INPUT: true; the input reads as it did. -/
def fnExactBallAfterSpec : ChangeSpec := { name := "fnExactBallAfter", fn := fun _ => fun
  | [d1, d2, d3, d4] => { results := [.lit (.bool true)], args := [d1, d2, d3, d4] }
  | _ => none }
def fnExactBallAfterRow : OpenClaim := { program := "ytajkfkpnjbkhhaa", sum := "a2d5f8bccd36e35af2da8ea78f6871630cb0c3c95cb12081da4873d576911642", func := "loop.example/g00928/laws.FnExactBallAfter", spec := "fnExactBallAfter", unfollowed := true, recurses := true, apart := false }
def FnExactBallAfterSaid : Prop := fnExactBallAfterRow.holds Try.pinned (OpenSpec.ofChange fnExactBallAfterSpec)

/-- ITS FALSE NEIGHBOUR: 'it returns false'. Refute it at one input. -/
def fnExactBallAfterWrong : ChangeSpec := { name := "fnExactBallAfter", fn := fun _ => fun
  | [d1, d2, d3, d4] => { results := [.lit (.bool false)], args := [d1, d2, d3, d4] }
  | _ => none }
def FnExactBallAfterWrongFalsely : Prop := fnExactBallAfterRow.holds Try.pinned (OpenSpec.ofChange fnExactBallAfterWrong)

/-- 'laws.FnExactBallPeriod': WHATEVER THE INPUT: true; the input reads as it did. -/
def fnExactBallPeriodSpec : ChangeSpec := { name := "fnExactBallPeriod", fn := fun _ => fun
  | [d1, d2] => { results := [.lit (.bool true)], args := [d1, d2] }
  | _ => none }
def fnExactBallPeriodRow : OpenClaim := { program := "ytajkfkpnjbkhhaa", sum := "a2d5f8bccd36e35af2da8ea78f6871630cb0c3c95cb12081da4873d576911642", func := "loop.example/g00928/laws.FnExactBallPeriod", spec := "fnExactBallPeriod", apart := false }
def FnExactBallPeriodSaid : Prop := fnExactBallPeriodRow.holds Try.pinned (OpenSpec.ofChange fnExactBallPeriodSpec)

/-- ITS FALSE NEIGHBOUR: 'it returns false'. Refute it at one input. -/
def fnExactBallPeriodWrong : ChangeSpec := { name := "fnExactBallPeriod", fn := fun _ => fun
  | [d1, d2] => { results := [.lit (.bool false)], args := [d1, d2] }
  | _ => none }
def FnExactBallPeriodWrongFalsely : Prop := fnExactBallPeriodRow.holds Try.pinned (OpenSpec.ofChange fnExactBallPeriodWrong)

/-- 'laws.FnExactBouncesIn': WHATEVER THE INPUT: true; the input reads as it did. -/
def fnExactBouncesInSpec : ChangeSpec := { name := "fnExactBouncesIn", fn := fun _ => fun
  | [d1, d2, d3] => { results := [.lit (.bool true)], args := [d1, d2, d3] }
  | _ => none }
def fnExactBouncesInRow : OpenClaim := { program := "ytajkfkpnjbkhhaa", sum := "a2d5f8bccd36e35af2da8ea78f6871630cb0c3c95cb12081da4873d576911642", func := "loop.example/g00928/laws.FnExactBouncesIn", spec := "fnExactBouncesIn", unfollowed := true, recurses := true, apart := false }
def FnExactBouncesInSaid : Prop := fnExactBouncesInRow.holds Try.pinned (OpenSpec.ofChange fnExactBouncesInSpec)

/-- ITS FALSE NEIGHBOUR: 'it returns false'. Refute it at one input. -/
def fnExactBouncesInWrong : ChangeSpec := { name := "fnExactBouncesIn", fn := fun _ => fun
  | [d1, d2, d3] => { results := [.lit (.bool false)], args := [d1, d2, d3] }
  | _ => none }
def FnExactBouncesInWrongFalsely : Prop := fnExactBouncesInRow.holds Try.pinned (OpenSpec.ofChange fnExactBouncesInWrong)

/-- 'laws.FnExactStepsToCorner': WHATEVER THE INPUT: true; the input reads as it did. -/
def fnExactStepsToCornerSpec : ChangeSpec := { name := "fnExactStepsToCorner", fn := fun _ => fun
  | [d1, d2, d3] => { results := [.lit (.bool true)], args := [d1, d2, d3] }
  | _ => none }
def fnExactStepsToCornerRow : OpenClaim := { program := "ytajkfkpnjbkhhaa", sum := "a2d5f8bccd36e35af2da8ea78f6871630cb0c3c95cb12081da4873d576911642", func := "loop.example/g00928/laws.FnExactStepsToCorner", spec := "fnExactStepsToCorner", unfollowed := true, recurses := true, apart := false }
def FnExactStepsToCornerSaid : Prop := fnExactStepsToCornerRow.holds Try.pinned (OpenSpec.ofChange fnExactStepsToCornerSpec)

/-- ITS FALSE NEIGHBOUR: 'it returns false'. Refute it at one input. -/
def fnExactStepsToCornerWrong : ChangeSpec := { name := "fnExactStepsToCorner", fn := fun _ => fun
  | [d1, d2, d3] => { results := [.lit (.bool false)], args := [d1, d2, d3] }
  | _ => none }
def FnExactStepsToCornerWrongFalsely : Prop := fnExactStepsToCornerRow.holds Try.pinned (OpenSpec.ofChange fnExactStepsToCornerWrong)

/-- 'laws.FnExactPhaseOf': WHATEVER THE INPUT: true; the input reads as it did. -/
def fnExactPhaseOfSpec : ChangeSpec := { name := "fnExactPhaseOf", fn := fun _ => fun
  | [d1, d2, d3] => { results := [.lit (.bool true)], args := [d1, d2, d3] }
  | _ => none }
def fnExactPhaseOfRow : OpenClaim := { program := "ytajkfkpnjbkhhaa", sum := "a2d5f8bccd36e35af2da8ea78f6871630cb0c3c95cb12081da4873d576911642", func := "loop.example/g00928/laws.FnExactPhaseOf", spec := "fnExactPhaseOf", apart := false }
def FnExactPhaseOfSaid : Prop := fnExactPhaseOfRow.holds Try.pinned (OpenSpec.ofChange fnExactPhaseOfSpec)

/-- ITS FALSE NEIGHBOUR: 'it returns false'. Refute it at one input. -/
def fnExactPhaseOfWrong : ChangeSpec := { name := "fnExactPhaseOf", fn := fun _ => fun
  | [d1, d2, d3] => { results := [.lit (.bool false)], args := [d1, d2, d3] }
  | _ => none }
def FnExactPhaseOfWrongFalsely : Prop := fnExactPhaseOfRow.holds Try.pinned (OpenSpec.ofChange fnExactPhaseOfWrong)

/- THE SECOND FORM. 'bulk': how many values and letters a reading holds, each counted each time it is reached (what is shared counts as often as it is met; a slice's spare places count too). A statement '..UptoSaid' is the law's where the arguments, and the package variables that the reading takes, are together of bulk at most 1048576: NARROWER than '..Said'. Prove '..Said' where nothing that the law and all that it calls make is longer than what came in: it says more and counts as full. Else prove '..UptoSaid'. A law counts once. -/
mutual
def uptoBulk {H : Type} : DataW H → Nat
  | .lit (.string bytes) => bytes.length + 1
  | .lit _ => 1
  | .nil => 1
  | .ptr d => uptoBulk d + 1
  | .slice elems spare => uptoBulkAll elems + uptoBulkAll spare + 1
  | .agg parts => uptoBulkAll parts + 1
  | .iface _ d => uptoBulk d + 1
  | .map entries => uptoBulkEntries entries + 1
  | .held _ => 1
def uptoBulkAll {H : Type} : List (DataW H) → Nat
  | [] => 0
  | d :: r => uptoBulk d + uptoBulkAll r
def uptoBulkEntries {H : Type} : List (Lit × DataW H) → Nat
  | [] => 0
  | x :: r => uptoBulkEntry x + uptoBulkEntries r
def uptoBulkEntry {H : Type} : Lit × DataW H → Nat
  | (.string bytes, d) => bytes.length + uptoBulk d + 1
  | (_, d) => uptoBulk d + 1
 end
def uptoSmall : (H : Type) → List (DataW H) → Bool := fun _ ds => decide (uptoBulkAll ds ≤ 1048576)
def OpenSpec.upto (s : _root_.Go.ChangeSpec) : _root_.Go.OpenSpec := { _root_.Go.OpenSpec.ofChange s with cond := some uptoSmall }

/-- 'laws.FnBalls', WHERE WHAT IT READS IS OF BULK AT MOST 1048576: true; the input reads as it did. -/
def fnBallsUptoRow : OpenClaim := { program := "ytajkfkpnjbkhhaa", sum := "a2d5f8bccd36e35af2da8ea78f6871630cb0c3c95cb12081da4873d576911642", func := "loop.example/g00928/laws.FnBalls", spec := "fnBalls", unfollowed := true, recurses := true, apart := false, narrowed := true }
def FnBallsUptoSaid : Prop := fnBallsUptoRow.holds Try.pinned (OpenSpec.upto fnBallsSpec)

/-- 'laws.FnExactBallOk', WHERE WHAT IT READS IS OF BULK AT MOST 1048576: true; the input reads as it did. -/
def fnExactBallOkUptoRow : OpenClaim := { program := "ytajkfkpnjbkhhaa", sum := "a2d5f8bccd36e35af2da8ea78f6871630cb0c3c95cb12081da4873d576911642", func := "loop.example/g00928/laws.FnExactBallOk", spec := "fnExactBallOk", unfollowed := true, recurses := true, apart := false, narrowed := true }
def FnExactBallOkUptoSaid : Prop := fnExactBallOkUptoRow.holds Try.pinned (OpenSpec.upto fnExactBallOkSpec)

/-- 'laws.FnExactBallStep', WHERE WHAT IT READS IS OF BULK AT MOST 1048576: true; the input reads as it did. -/
def fnExactBallStepUptoRow : OpenClaim := { program := "ytajkfkpnjbkhhaa", sum := "a2d5f8bccd36e35af2da8ea78f6871630cb0c3c95cb12081da4873d576911642", func := "loop.example/g00928/laws.FnExactBallStep", spec := "fnExactBallStep", unfollowed := true, recurses := true, apart := false, narrowed := true }
def FnExactBallStepUptoSaid : Prop := fnExactBallStepUptoRow.holds Try.pinned (OpenSpec.upto fnExactBallStepSpec)

/-- 'laws.FnExactBallAfter', WHERE WHAT IT READS IS OF BULK AT MOST 1048576: true; the input reads as it did. -/
def fnExactBallAfterUptoRow : OpenClaim := { program := "ytajkfkpnjbkhhaa", sum := "a2d5f8bccd36e35af2da8ea78f6871630cb0c3c95cb12081da4873d576911642", func := "loop.example/g00928/laws.FnExactBallAfter", spec := "fnExactBallAfter", unfollowed := true, recurses := true, apart := false, narrowed := true }
def FnExactBallAfterUptoSaid : Prop := fnExactBallAfterUptoRow.holds Try.pinned (OpenSpec.upto fnExactBallAfterSpec)

/-- 'laws.FnExactBallPeriod', WHERE WHAT IT READS IS OF BULK AT MOST 1048576: true; the input reads as it did. -/
def fnExactBallPeriodUptoRow : OpenClaim := { program := "ytajkfkpnjbkhhaa", sum := "a2d5f8bccd36e35af2da8ea78f6871630cb0c3c95cb12081da4873d576911642", func := "loop.example/g00928/laws.FnExactBallPeriod", spec := "fnExactBallPeriod", apart := false, narrowed := true }
def FnExactBallPeriodUptoSaid : Prop := fnExactBallPeriodUptoRow.holds Try.pinned (OpenSpec.upto fnExactBallPeriodSpec)

/-- 'laws.FnExactBouncesIn', WHERE WHAT IT READS IS OF BULK AT MOST 1048576: true; the input reads as it did. -/
def fnExactBouncesInUptoRow : OpenClaim := { program := "ytajkfkpnjbkhhaa", sum := "a2d5f8bccd36e35af2da8ea78f6871630cb0c3c95cb12081da4873d576911642", func := "loop.example/g00928/laws.FnExactBouncesIn", spec := "fnExactBouncesIn", unfollowed := true, recurses := true, apart := false, narrowed := true }
def FnExactBouncesInUptoSaid : Prop := fnExactBouncesInUptoRow.holds Try.pinned (OpenSpec.upto fnExactBouncesInSpec)

/-- 'laws.FnExactStepsToCorner', WHERE WHAT IT READS IS OF BULK AT MOST 1048576: true; the input reads as it did. -/
def fnExactStepsToCornerUptoRow : OpenClaim := { program := "ytajkfkpnjbkhhaa", sum := "a2d5f8bccd36e35af2da8ea78f6871630cb0c3c95cb12081da4873d576911642", func := "loop.example/g00928/laws.FnExactStepsToCorner", spec := "fnExactStepsToCorner", unfollowed := true, recurses := true, apart := false, narrowed := true }
def FnExactStepsToCornerUptoSaid : Prop := fnExactStepsToCornerUptoRow.holds Try.pinned (OpenSpec.upto fnExactStepsToCornerSpec)

/-- 'laws.FnExactPhaseOf', WHERE WHAT IT READS IS OF BULK AT MOST 1048576: true; the input reads as it did. -/
def fnExactPhaseOfUptoRow : OpenClaim := { program := "ytajkfkpnjbkhhaa", sum := "a2d5f8bccd36e35af2da8ea78f6871630cb0c3c95cb12081da4873d576911642", func := "loop.example/g00928/laws.FnExactPhaseOf", spec := "fnExactPhaseOf", apart := false, narrowed := true }
def FnExactPhaseOfUptoSaid : Prop := fnExactPhaseOfUptoRow.holds Try.pinned (OpenSpec.upto fnExactPhaseOfSpec)

end Rows
end Go.Proofs.Ytajkfkpnjbkhhaa

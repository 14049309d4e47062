/-
  No cell of these rows narrows 'for every input' (looked for: loops, veiled, ifaces, maps, wideKeys, modest, calm, conditions, laid).
  DERIVED. THE GIVEN ROWS OF THIS SEAT. 9 by the template 'for every input the law returns true; each argument reads behind the call as it read before'; 0 by the template 'total and deterministic' (their statements: YtjnmgpdjolaleaaTotals.lean).
  GIVEN WITH THE SEED: the statements are not yours to turn. If you find one false, say at which input.
  Laid BY PROGRAM, IN A SANDBOX (cutbox-rows.mjs): the forced cells as the released guide's own fill.sh prints them over the translation b7ca3d434b99d19f… (all of the seat's roots in one cut). By AI agents, Wed Nov 11 2026. No macro, syntax, notation, axiom, sorry.
-/
import Derived.Test.YtjnmgpdjolaleaaChecked
import GoSem.Claim
import GoSem.ClaimJoined
import GoSem.ClaimMapViews
import Derived.JoinedTies
import Derived.KernelRfl
namespace Go.Proofs.Ytjnmgpdjolaleaa
/- THE CELL 'sum', in the pinned program and in every row, IS THE sha256 OF THE DUMP (.gsa) THAT YtjnmgpdjolaleaaProg.lean LOADS. Nothing in Lean hashes anything: it is a label: what it is worth is what the hold of that sum in a sandbox is worth. -/
noncomputable def Try.pinned : Pinned := { name := "ytjnmgpdjolaleaa", sum := "b7ca3d434b99d19f1a62e2555428434ad13b5813bfc31902c172cb0dac47622b", checked := Try.checked }
namespace Rows
def none {H : Type} : Left H := { results := [], args := [] }

/-- 'laws.FnPerms': WHATEVER THE INPUT: true; the input reads as it did. -/
def fnPermsSpec : ChangeSpec := { name := "fnPerms", fn := fun _ => fun
  | [d] => { results := [.lit (.bool true)], args := [d] }
  | _ => none }
def fnPermsRow : OpenClaim := { program := "ytjnmgpdjolaleaa", sum := "b7ca3d434b99d19f1a62e2555428434ad13b5813bfc31902c172cb0dac47622b", func := "loop.example/g00928/laws.FnPerms", spec := "fnPerms", apart := false }
def FnPermsSaid : Prop := fnPermsRow.holds Try.pinned (OpenSpec.ofChange fnPermsSpec)

/-- ITS FALSE NEIGHBOUR: 'it returns false'. Refute it at one input. -/
def fnPermsWrong : ChangeSpec := { name := "fnPerms", fn := fun _ => fun
  | [d] => { results := [.lit (.bool false)], args := [d] }
  | _ => none }
def FnPermsWrongFalsely : Prop := fnPermsRow.holds Try.pinned (OpenSpec.ofChange fnPermsWrong)

/-- 'laws.FnExactPermOk': WHATEVER THE INPUT: true; the input reads as it did. -/
def fnExactPermOkSpec : ChangeSpec := { name := "fnExactPermOk", fn := fun _ => fun
  | [d] => { results := [.lit (.bool true)], args := [d] }
  | _ => none }
def fnExactPermOkRow : OpenClaim := { program := "ytjnmgpdjolaleaa", sum := "b7ca3d434b99d19f1a62e2555428434ad13b5813bfc31902c172cb0dac47622b", func := "loop.example/g00928/laws.FnExactPermOk", spec := "fnExactPermOk", apart := false }
def FnExactPermOkSaid : Prop := fnExactPermOkRow.holds Try.pinned (OpenSpec.ofChange fnExactPermOkSpec)

/-- ITS FALSE NEIGHBOUR: 'it returns false'. Refute it at one input. -/
def fnExactPermOkWrong : ChangeSpec := { name := "fnExactPermOk", fn := fun _ => fun
  | [d] => { results := [.lit (.bool false)], args := [d] }
  | _ => none }
def FnExactPermOkWrongFalsely : Prop := fnExactPermOkRow.holds Try.pinned (OpenSpec.ofChange fnExactPermOkWrong)

/-- 'laws.FnExactIdentityPerm': WHATEVER THE INPUT: true; the input reads as it did. -/
def fnExactIdentityPermSpec : ChangeSpec := { name := "fnExactIdentityPerm", fn := fun _ => fun
  | [d] => { results := [.lit (.bool true)], args := [d] }
  | _ => none }
def fnExactIdentityPermRow : OpenClaim := { program := "ytjnmgpdjolaleaa", sum := "b7ca3d434b99d19f1a62e2555428434ad13b5813bfc31902c172cb0dac47622b", func := "loop.example/g00928/laws.FnExactIdentityPerm", spec := "fnExactIdentityPerm", apart := false }
def FnExactIdentityPermSaid : Prop := fnExactIdentityPermRow.holds Try.pinned (OpenSpec.ofChange fnExactIdentityPermSpec)

/-- ITS FALSE NEIGHBOUR: 'it returns false'. Refute it at one input. -/
def fnExactIdentityPermWrong : ChangeSpec := { name := "fnExactIdentityPerm", fn := fun _ => fun
  | [d] => { results := [.lit (.bool false)], args := [d] }
  | _ => none }
def FnExactIdentityPermWrongFalsely : Prop := fnExactIdentityPermRow.holds Try.pinned (OpenSpec.ofChange fnExactIdentityPermWrong)

/-- 'laws.FnExactInversePerm': WHATEVER THE INPUT: true; the input reads as it did. -/
def fnExactInversePermSpec : ChangeSpec := { name := "fnExactInversePerm", fn := fun _ => fun
  | [d] => { results := [.lit (.bool true)], args := [d] }
  | _ => none }
def fnExactInversePermRow : OpenClaim := { program := "ytjnmgpdjolaleaa", sum := "b7ca3d434b99d19f1a62e2555428434ad13b5813bfc31902c172cb0dac47622b", func := "loop.example/g00928/laws.FnExactInversePerm", spec := "fnExactInversePerm", apart := false }
def FnExactInversePermSaid : Prop := fnExactInversePermRow.holds Try.pinned (OpenSpec.ofChange fnExactInversePermSpec)

/-- ITS FALSE NEIGHBOUR: 'it returns false'. Refute it at one input. -/
def fnExactInversePermWrong : ChangeSpec := { name := "fnExactInversePerm", fn := fun _ => fun
  | [d] => { results := [.lit (.bool false)], args := [d] }
  | _ => none }
def FnExactInversePermWrongFalsely : Prop := fnExactInversePermRow.holds Try.pinned (OpenSpec.ofChange fnExactInversePermWrong)

/-- 'laws.FnExactThenPerm': WHATEVER THE INPUT: true; the input reads as it did. -/
def fnExactThenPermSpec : ChangeSpec := { name := "fnExactThenPerm", fn := fun _ => fun
  | [d1, d2] => { results := [.lit (.bool true)], args := [d1, d2] }
  | _ => none }
def fnExactThenPermRow : OpenClaim := { program := "ytjnmgpdjolaleaa", sum := "b7ca3d434b99d19f1a62e2555428434ad13b5813bfc31902c172cb0dac47622b", func := "loop.example/g00928/laws.FnExactThenPerm", spec := "fnExactThenPerm", apart := false }
def FnExactThenPermSaid : Prop := fnExactThenPermRow.holds Try.pinned (OpenSpec.ofChange fnExactThenPermSpec)

/-- ITS FALSE NEIGHBOUR: 'it returns false'. Refute it at one input. -/
def fnExactThenPermWrong : ChangeSpec := { name := "fnExactThenPerm", fn := fun _ => fun
  | [d1, d2] => { results := [.lit (.bool false)], args := [d1, d2] }
  | _ => none }
def FnExactThenPermWrongFalsely : Prop := fnExactThenPermRow.holds Try.pinned (OpenSpec.ofChange fnExactThenPermWrong)

/-- 'laws.FnExactCyclesOf': WHATEVER THE INPUT: true; the input reads as it did. -/
def fnExactCyclesOfSpec : ChangeSpec := { name := "fnExactCyclesOf", fn := fun _ => fun
  | [d] => { results := [.lit (.bool true)], args := [d] }
  | _ => none }
def fnExactCyclesOfRow : OpenClaim := { program := "ytjnmgpdjolaleaa", sum := "b7ca3d434b99d19f1a62e2555428434ad13b5813bfc31902c172cb0dac47622b", func := "loop.example/g00928/laws.FnExactCyclesOf", spec := "fnExactCyclesOf", apart := false }
def FnExactCyclesOfSaid : Prop := fnExactCyclesOfRow.holds Try.pinned (OpenSpec.ofChange fnExactCyclesOfSpec)

/-- ITS FALSE NEIGHBOUR: 'it returns false'. Refute it at one input. -/
def fnExactCyclesOfWrong : ChangeSpec := { name := "fnExactCyclesOf", fn := fun _ => fun
  | [d] => { results := [.lit (.bool false)], args := [d] }
  | _ => none }
def FnExactCyclesOfWrongFalsely : Prop := fnExactCyclesOfRow.holds Try.pinned (OpenSpec.ofChange fnExactCyclesOfWrong)

/-- 'laws.FnExactRenamePerm': WHATEVER THE INPUT: true; the input reads as it did. -/
def fnExactRenamePermSpec : ChangeSpec := { name := "fnExactRenamePerm", fn := fun _ => fun
  | [d1, d2] => { results := [.lit (.bool true)], args := [d1, d2] }
  | _ => none }
def fnExactRenamePermRow : OpenClaim := { program := "ytjnmgpdjolaleaa", sum := "b7ca3d434b99d19f1a62e2555428434ad13b5813bfc31902c172cb0dac47622b", func := "loop.example/g00928/laws.FnExactRenamePerm", spec := "fnExactRenamePerm", apart := false }
def FnExactRenamePermSaid : Prop := fnExactRenamePermRow.holds Try.pinned (OpenSpec.ofChange fnExactRenamePermSpec)

/-- ITS FALSE NEIGHBOUR: 'it returns false'. Refute it at one input. -/
def fnExactRenamePermWrong : ChangeSpec := { name := "fnExactRenamePerm", fn := fun _ => fun
  | [d1, d2] => { results := [.lit (.bool false)], args := [d1, d2] }
  | _ => none }
def FnExactRenamePermWrongFalsely : Prop := fnExactRenamePermRow.holds Try.pinned (OpenSpec.ofChange fnExactRenamePermWrong)

/-- 'laws.FnExactIsTransitive': WHATEVER THE INPUT: true; the input reads as it did. -/
def fnExactIsTransitiveSpec : ChangeSpec := { name := "fnExactIsTransitive", fn := fun _ => fun
  | [d1, d2] => { results := [.lit (.bool true)], args := [d1, d2] }
  | _ => none }
def fnExactIsTransitiveRow : OpenClaim := { program := "ytjnmgpdjolaleaa", sum := "b7ca3d434b99d19f1a62e2555428434ad13b5813bfc31902c172cb0dac47622b", func := "loop.example/g00928/laws.FnExactIsTransitive", spec := "fnExactIsTransitive", apart := false }
def FnExactIsTransitiveSaid : Prop := fnExactIsTransitiveRow.holds Try.pinned (OpenSpec.ofChange fnExactIsTransitiveSpec)

/-- ITS FALSE NEIGHBOUR: 'it returns false'. Refute it at one input. -/
def fnExactIsTransitiveWrong : ChangeSpec := { name := "fnExactIsTransitive", fn := fun _ => fun
  | [d1, d2] => { results := [.lit (.bool false)], args := [d1, d2] }
  | _ => none }
def FnExactIsTransitiveWrongFalsely : Prop := fnExactIsTransitiveRow.holds Try.pinned (OpenSpec.ofChange fnExactIsTransitiveWrong)

/-- 'laws.FnExactSameList': WHATEVER THE INPUT: true; the input reads as it did. -/
def fnExactSameListSpec : ChangeSpec := { name := "fnExactSameList", fn := fun _ => fun
  | [d1, d2] => { results := [.lit (.bool true)], args := [d1, d2] }
  | _ => none }
def fnExactSameListRow : OpenClaim := { program := "ytjnmgpdjolaleaa", sum := "b7ca3d434b99d19f1a62e2555428434ad13b5813bfc31902c172cb0dac47622b", func := "loop.example/g00928/laws.FnExactSameList", spec := "fnExactSameList", apart := false }
def FnExactSameListSaid : Prop := fnExactSameListRow.holds Try.pinned (OpenSpec.ofChange fnExactSameListSpec)

/-- ITS FALSE NEIGHBOUR: 'it returns false'. Refute it at one input. -/
def fnExactSameListWrong : ChangeSpec := { name := "fnExactSameList", fn := fun _ => fun
  | [d1, d2] => { results := [.lit (.bool false)], args := [d1, d2] }
  | _ => none }
def FnExactSameListWrongFalsely : Prop := fnExactSameListRow.holds Try.pinned (OpenSpec.ofChange fnExactSameListWrong)

/- THE SECOND FORM. 'bulk': how many values and letters a reading holds, each counted each time it is reached (what is shared counts as often as it is met; a slice's spare places count too). A statement '..UptoSaid' is the law's where the arguments, and the package variables that the reading takes, are together of bulk at most 1048576: NARROWER than '..Said'. Prove '..Said' where nothing that the law and all that it calls make is longer than what came in: it says more and counts as full. Else prove '..UptoSaid'. A law counts once. -/
mutual
def uptoBulk {H : Type} : DataW H → Nat
  | .lit (.string bytes) => bytes.length + 1
  | .lit _ => 1
  | .nil => 1
  | .ptr d => uptoBulk d + 1
  | .slice elems spare => uptoBulkAll elems + uptoBulkAll spare + 1
  | .agg parts => uptoBulkAll parts + 1
  | .iface _ d => uptoBulk d + 1
  | .map entries => uptoBulkEntries entries + 1
  | .held _ => 1
def uptoBulkAll {H : Type} : List (DataW H) → Nat
  | [] => 0
  | d :: r => uptoBulk d + uptoBulkAll r
def uptoBulkEntries {H : Type} : List (Lit × DataW H) → Nat
  | [] => 0
  | x :: r => uptoBulkEntry x + uptoBulkEntries r
def uptoBulkEntry {H : Type} : Lit × DataW H → Nat
  | (.string bytes, d) => bytes.length + uptoBulk d + 1
  | (_, d) => uptoBulk d + 1
 end
def uptoSmall : (H : Type) → List (DataW H) → Bool := fun _ ds => decide (uptoBulkAll ds ≤ 1048576)
def OpenSpec.upto (s : _root_.Go.ChangeSpec) : _root_.Go.OpenSpec := { _root_.Go.OpenSpec.ofChange s with cond := some uptoSmall }

/-- 'laws.FnPerms', WHERE WHAT IT READS IS OF BULK AT MOST 1048576: true; the input reads as it did. -/
def fnPermsUptoRow : OpenClaim := { program := "ytjnmgpdjolaleaa", sum := "b7ca3d434b99d19f1a62e2555428434ad13b5813bfc31902c172cb0dac47622b", func := "loop.example/g00928/laws.FnPerms", spec := "fnPerms", apart := false, narrowed := true }
def FnPermsUptoSaid : Prop := fnPermsUptoRow.holds Try.pinned (OpenSpec.upto fnPermsSpec)

/-- 'laws.FnExactPermOk', WHERE WHAT IT READS IS OF BULK AT MOST 1048576: true; the input reads as it did. -/
def fnExactPermOkUptoRow : OpenClaim := { program := "ytjnmgpdjolaleaa", sum := "b7ca3d434b99d19f1a62e2555428434ad13b5813bfc31902c172cb0dac47622b", func := "loop.example/g00928/laws.FnExactPermOk", spec := "fnExactPermOk", apart := false, narrowed := true }
def FnExactPermOkUptoSaid : Prop := fnExactPermOkUptoRow.holds Try.pinned (OpenSpec.upto fnExactPermOkSpec)

/-- 'laws.FnExactIdentityPerm', WHERE WHAT IT READS IS OF BULK AT MOST 1048576: true; the input reads as it did. -/
def fnExactIdentityPermUptoRow : OpenClaim := { program := "ytjnmgpdjolaleaa", sum := "b7ca3d434b99d19f1a62e2555428434ad13b5813bfc31902c172cb0dac47622b", func := "loop.example/g00928/laws.FnExactIdentityPerm", spec := "fnExactIdentityPerm", apart := false, narrowed := true }
def FnExactIdentityPermUptoSaid : Prop := fnExactIdentityPermUptoRow.holds Try.pinned (OpenSpec.upto fnExactIdentityPermSpec)

/-- 'laws.FnExactInversePerm', WHERE WHAT IT READS IS OF BULK AT MOST 1048576: true; the input reads as it did. -/
def fnExactInversePermUptoRow : OpenClaim := { program := "ytjnmgpdjolaleaa", sum := "b7ca3d434b99d19f1a62e2555428434ad13b5813bfc31902c172cb0dac47622b", func := "loop.example/g00928/laws.FnExactInversePerm", spec := "fnExactInversePerm", apart := false, narrowed := true }
def FnExactInversePermUptoSaid : Prop := fnExactInversePermUptoRow.holds Try.pinned (OpenSpec.upto fnExactInversePermSpec)

/-- 'laws.FnExactThenPerm', WHERE WHAT IT READS IS OF BULK AT MOST 1048576: true; the input reads as it did. -/
def fnExactThenPermUptoRow : OpenClaim := { program := "ytjnmgpdjolaleaa", sum := "b7ca3d434b99d19f1a62e2555428434ad13b5813bfc31902c172cb0dac47622b", func := "loop.example/g00928/laws.FnExactThenPerm", spec := "fnExactThenPerm", apart := false, narrowed := true }
def FnExactThenPermUptoSaid : Prop := fnExactThenPermUptoRow.holds Try.pinned (OpenSpec.upto fnExactThenPermSpec)

/-- 'laws.FnExactCyclesOf', WHERE WHAT IT READS IS OF BULK AT MOST 1048576: true; the input reads as it did. -/
def fnExactCyclesOfUptoRow : OpenClaim := { program := "ytjnmgpdjolaleaa", sum := "b7ca3d434b99d19f1a62e2555428434ad13b5813bfc31902c172cb0dac47622b", func := "loop.example/g00928/laws.FnExactCyclesOf", spec := "fnExactCyclesOf", apart := false, narrowed := true }
def FnExactCyclesOfUptoSaid : Prop := fnExactCyclesOfUptoRow.holds Try.pinned (OpenSpec.upto fnExactCyclesOfSpec)

/-- 'laws.FnExactRenamePerm', WHERE WHAT IT READS IS OF BULK AT MOST 1048576: true; the input reads as it did. -/
def fnExactRenamePermUptoRow : OpenClaim := { program := "ytjnmgpdjolaleaa", sum := "b7ca3d434b99d19f1a62e2555428434ad13b5813bfc31902c172cb0dac47622b", func := "loop.example/g00928/laws.FnExactRenamePerm", spec := "fnExactRenamePerm", apart := false, narrowed := true }
def FnExactRenamePermUptoSaid : Prop := fnExactRenamePermUptoRow.holds Try.pinned (OpenSpec.upto fnExactRenamePermSpec)

/-- 'laws.FnExactIsTransitive', WHERE WHAT IT READS IS OF BULK AT MOST 1048576: true; the input reads as it did. -/
def fnExactIsTransitiveUptoRow : OpenClaim := { program := "ytjnmgpdjolaleaa", sum := "b7ca3d434b99d19f1a62e2555428434ad13b5813bfc31902c172cb0dac47622b", func := "loop.example/g00928/laws.FnExactIsTransitive", spec := "fnExactIsTransitive", apart := false, narrowed := true }
def FnExactIsTransitiveUptoSaid : Prop := fnExactIsTransitiveUptoRow.holds Try.pinned (OpenSpec.upto fnExactIsTransitiveSpec)

/-- 'laws.FnExactSameList', WHERE WHAT IT READS IS OF BULK AT MOST 1048576: true; the input reads as it did. -/
def fnExactSameListUptoRow : OpenClaim := { program := "ytjnmgpdjolaleaa", sum := "b7ca3d434b99d19f1a62e2555428434ad13b5813bfc31902c172cb0dac47622b", func := "loop.example/g00928/laws.FnExactSameList", spec := "fnExactSameList", apart := false, narrowed := true }
def FnExactSameListUptoSaid : Prop := fnExactSameListUptoRow.holds Try.pinned (OpenSpec.upto fnExactSameListSpec)

end Rows
end Go.Proofs.Ytjnmgpdjolaleaa

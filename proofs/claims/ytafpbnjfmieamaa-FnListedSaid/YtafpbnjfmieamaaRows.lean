/-
  No cell of these rows narrows 'for every input' (looked for: loops, veiled, ifaces, maps, wideKeys, modest, calm, conditions, laid).
  DERIVED. THE GIVEN ROWS OF THIS SEAT. 3 by the template 'for every input the law returns true; each argument reads behind the call as it read before'; 0 by the template 'total and deterministic' (their statements: YtafpbnjfmieamaaTotals.lean).
  GIVEN WITH THE SEED: the statements are not yours to turn. If you find one false, say at which input.
  Laid BY PROGRAM, IN A SANDBOX (cutbox-rows.mjs): the forced cells as the released guide's own fill.sh prints them over the translation c38319aa3cc080a5… (all of the seat's roots in one cut). By AI agents, Wed Nov 11 2026. No macro, syntax, notation, axiom, sorry.
-/
import Derived.Test.YtafpbnjfmieamaaChecked
import GoSem.Claim
import GoSem.ClaimJoined
import GoSem.ClaimMapViews
import Derived.JoinedTies
import Derived.KernelRfl
namespace Go.Proofs.Ytafpbnjfmieamaa
/- THE CELL 'sum', in the pinned program and in every row, IS THE sha256 OF THE DUMP (.gsa) THAT YtafpbnjfmieamaaProg.lean LOADS. Nothing in Lean hashes anything: it is a label: what it is worth is what the hold of that sum in a sandbox is worth. -/
noncomputable def Try.pinned : Pinned := { name := "ytafpbnjfmieamaa", sum := "c38319aa3cc080a5b4b7628633bb7f9e5e0ce80c81ce970f5239b78d4f6bfdaf", checked := Try.checked }
namespace Rows
def none {H : Type} : Left H := { results := [], args := [] }

/-- 'laws.FnListed': WHATEVER THE INPUT: true; the input reads as it did. -/
def fnListedSpec : ChangeSpec := { name := "fnListed", fn := fun _ => fun
  | [d] => { results := [.lit (.bool true)], args := [d] }
  | _ => none }
def fnListedRow : OpenClaim := { program := "ytafpbnjfmieamaa", sum := "c38319aa3cc080a5b4b7628633bb7f9e5e0ce80c81ce970f5239b78d4f6bfdaf", func := "loop.example/g00928/laws.FnListed", spec := "fnListed", inPlace := ["slices.overlaps[loop.example/g00928/impl.gluing]", "slices.overlaps[[]int]"], unfollowed := true, recurses := true, apart := false }
def FnListedSaid : Prop := fnListedRow.holds Try.pinned (OpenSpec.ofChange fnListedSpec)

/-- ITS FALSE NEIGHBOUR: 'it returns false'. Refute it at one input. -/
def fnListedWrong : ChangeSpec := { name := "fnListed", fn := fun _ => fun
  | [d] => { results := [.lit (.bool false)], args := [d] }
  | _ => none }
def FnListedWrongFalsely : Prop := fnListedRow.holds Try.pinned (OpenSpec.ofChange fnListedWrong)

/-- 'laws.FnExactSurfacesWith': WHATEVER THE INPUT: true; the input reads as it did. -/
def fnExactSurfacesWithSpec : ChangeSpec := { name := "fnExactSurfacesWith", fn := fun _ => fun
  | [d] => { results := [.lit (.bool true)], args := [d] }
  | _ => none }
def fnExactSurfacesWithRow : OpenClaim := { program := "ytafpbnjfmieamaa", sum := "c38319aa3cc080a5b4b7628633bb7f9e5e0ce80c81ce970f5239b78d4f6bfdaf", func := "loop.example/g00928/laws.FnExactSurfacesWith", spec := "fnExactSurfacesWith", inPlace := ["slices.overlaps[loop.example/g00928/impl.gluing]"], unfollowed := true, recurses := true, apart := false }
def FnExactSurfacesWithSaid : Prop := fnExactSurfacesWithRow.holds Try.pinned (OpenSpec.ofChange fnExactSurfacesWithSpec)

/-- ITS FALSE NEIGHBOUR: 'it returns false'. Refute it at one input. -/
def fnExactSurfacesWithWrong : ChangeSpec := { name := "fnExactSurfacesWith", fn := fun _ => fun
  | [d] => { results := [.lit (.bool false)], args := [d] }
  | _ => none }
def FnExactSurfacesWithWrongFalsely : Prop := fnExactSurfacesWithRow.holds Try.pinned (OpenSpec.ofChange fnExactSurfacesWithWrong)

/-- 'laws.FnExactCountTori': WHATEVER THE INPUT: true; the input reads as it did. -/
def fnExactCountToriSpec : ChangeSpec := { name := "fnExactCountTori", fn := fun _ => fun
  | [d] => { results := [.lit (.bool true)], args := [d] }
  | _ => none }
def fnExactCountToriRow : OpenClaim := { program := "ytafpbnjfmieamaa", sum := "c38319aa3cc080a5b4b7628633bb7f9e5e0ce80c81ce970f5239b78d4f6bfdaf", func := "loop.example/g00928/laws.FnExactCountTori", spec := "fnExactCountTori", inPlace := ["slices.overlaps[loop.example/g00928/impl.gluing]"], unfollowed := true, recurses := true, apart := false }
def FnExactCountToriSaid : Prop := fnExactCountToriRow.holds Try.pinned (OpenSpec.ofChange fnExactCountToriSpec)

/-- ITS FALSE NEIGHBOUR: 'it returns false'. Refute it at one input. -/
def fnExactCountToriWrong : ChangeSpec := { name := "fnExactCountTori", fn := fun _ => fun
  | [d] => { results := [.lit (.bool false)], args := [d] }
  | _ => none }
def FnExactCountToriWrongFalsely : Prop := fnExactCountToriRow.holds Try.pinned (OpenSpec.ofChange fnExactCountToriWrong)

/- THE SECOND FORM. 'bulk': how many values and letters a reading holds, each counted each time it is reached (what is shared counts as often as it is met; a slice's spare places count too). A statement '..UptoSaid' is the law's where the arguments, and the package variables that the reading takes, are together of bulk at most 1048576: NARROWER than '..Said'. Prove '..Said' where nothing that the law and all that it calls make is longer than what came in: it says more and counts as full. Else prove '..UptoSaid'. A law counts once. -/
mutual
def uptoBulk {H : Type} : DataW H → Nat
  | .lit (.string bytes) => bytes.length + 1
  | .lit _ => 1
  | .nil => 1
  | .ptr d => uptoBulk d + 1
  | .slice elems spare => uptoBulkAll elems + uptoBulkAll spare + 1
  | .agg parts => uptoBulkAll parts + 1
  | .iface _ d => uptoBulk d + 1
  | .map entries => uptoBulkEntries entries + 1
  | .held _ => 1
def uptoBulkAll {H : Type} : List (DataW H) → Nat
  | [] => 0
  | d :: r => uptoBulk d + uptoBulkAll r
def uptoBulkEntries {H : Type} : List (Lit × DataW H) → Nat
  | [] => 0
  | x :: r => uptoBulkEntry x + uptoBulkEntries r
def uptoBulkEntry {H : Type} : Lit × DataW H → Nat
  | (.string bytes, d) => bytes.length + uptoBulk d + 1
  | (_, d) => uptoBulk d + 1
 end
def uptoSmall : (H : Type) → List (DataW H) → Bool := fun _ ds => decide (uptoBulkAll ds ≤ 1048576)
def OpenSpec.upto (s : _root_.Go.ChangeSpec) : _root_.Go.OpenSpec := { _root_.Go.OpenSpec.ofChange s with cond := some uptoSmall }

/-- 'laws.FnListed', WHERE WHAT IT READS IS OF BULK AT MOST 1048576: true; the input reads as it did. -/
def fnListedUptoRow : OpenClaim := { program := "ytafpbnjfmieamaa", sum := "c38319aa3cc080a5b4b7628633bb7f9e5e0ce80c81ce970f5239b78d4f6bfdaf", func := "loop.example/g00928/laws.FnListed", spec := "fnListed", inPlace := ["slices.overlaps[loop.example/g00928/impl.gluing]", "slices.overlaps[[]int]"], unfollowed := true, recurses := true, apart := false, narrowed := true }
def FnListedUptoSaid : Prop := fnListedUptoRow.holds Try.pinned (OpenSpec.upto fnListedSpec)

/-- 'laws.FnExactSurfacesWith', WHERE WHAT IT READS IS OF BULK AT MOST 1048576: true; the input reads as it did. -/
def fnExactSurfacesWithUptoRow : OpenClaim := { program := "ytafpbnjfmieamaa", sum := "c38319aa3cc080a5b4b7628633bb7f9e5e0ce80c81ce970f5239b78d4f6bfdaf", func := "loop.example/g00928/laws.FnExactSurfacesWith", spec := "fnExactSurfacesWith", inPlace := ["slices.overlaps[loop.example/g00928/impl.gluing]"], unfollowed := true, recurses := true, apart := false, narrowed := true }
def FnExactSurfacesWithUptoSaid : Prop := fnExactSurfacesWithUptoRow.holds Try.pinned (OpenSpec.upto fnExactSurfacesWithSpec)

/-- 'laws.FnExactCountTori', WHERE WHAT IT READS IS OF BULK AT MOST 1048576: true; the input reads as it did. -/
def fnExactCountToriUptoRow : OpenClaim := { program := "ytafpbnjfmieamaa", sum := "c38319aa3cc080a5b4b7628633bb7f9e5e0ce80c81ce970f5239b78d4f6bfdaf", func := "loop.example/g00928/laws.FnExactCountTori", spec := "fnExactCountTori", inPlace := ["slices.overlaps[loop.example/g00928/impl.gluing]"], unfollowed := true, recurses := true, apart := false, narrowed := true }
def FnExactCountToriUptoSaid : Prop := fnExactCountToriUptoRow.holds Try.pinned (OpenSpec.upto fnExactCountToriSpec)

end Rows
end Go.Proofs.Ytafpbnjfmieamaa

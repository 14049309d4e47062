/-
  No cell of these rows narrows 'for every input' (looked for: loops, veiled, ifaces, maps, wideKeys, modest, calm, conditions, laid).
  DERIVED. THE GIVEN ROWS OF THIS SEAT. 6 by the template 'for every input the law returns true; each argument reads behind the call as it read before'; 0 by the template 'total and deterministic' (their statements: YtpbbfbpggedgpaaTotals.lean).
  GIVEN WITH THE SEED: the statements are not yours to turn. If you find one false, say at which input.
  Laid BY PROGRAM, IN A SANDBOX (cutbox-rows.mjs): the forced cells as the released guide's own fill.sh prints them over the translation 6ad50423e9cccc11… (all of the seat's roots in one cut). By AI agents, Wed Nov 11 2026. No macro, syntax, notation, axiom, sorry.
-/
import Derived.Test.YtpbbfbpggedgpaaChecked
import GoSem.Claim
import GoSem.ClaimJoined
import GoSem.ClaimMapViews
import Derived.JoinedTies
import Derived.KernelRfl
namespace Go.Proofs.Ytpbbfbpggedgpaa
/- THE CELL 'sum', in the pinned program and in every row, IS THE sha256 OF THE DUMP (.gsa) THAT YtpbbfbpggedgpaaProg.lean LOADS. Nothing in Lean hashes anything: it is a label: what it is worth is what the hold of that sum in a sandbox is worth. -/
noncomputable def Try.pinned : Pinned := { name := "ytpbbfbpggedgpaa", sum := "6ad50423e9cccc1170cbfa6b23289060cecd25dc3dc8e97209211c109579b58c", checked := Try.checked }
namespace Rows
def none {H : Type} : Left H := { results := [], args := [] }

/-- 'laws.FnExactSlopeOk': WHATEVER THE INPUT: true; the input reads as it did. -/
def fnExactSlopeOkSpec : ChangeSpec := { name := "fnExactSlopeOk", fn := fun _ => fun
  | [d1, d2] => { results := [.lit (.bool true)], args := [d1, d2] }
  | _ => none }
def fnExactSlopeOkRow : OpenClaim := { program := "ytpbbfbpggedgpaa", sum := "6ad50423e9cccc1170cbfa6b23289060cecd25dc3dc8e97209211c109579b58c", func := "loop.example/g00928/laws.FnExactSlopeOk", spec := "fnExactSlopeOk", apart := false }
def FnExactSlopeOkSaid : Prop := fnExactSlopeOkRow.holds Try.pinned (OpenSpec.ofChange fnExactSlopeOkSpec)

/-- ITS FALSE NEIGHBOUR: 'it returns false'. Refute it at one input. -/
def fnExactSlopeOkWrong : ChangeSpec := { name := "fnExactSlopeOk", fn := fun _ => fun
  | [d1, d2] => { results := [.lit (.bool false)], args := [d1, d2] }
  | _ => none }
def FnExactSlopeOkWrongFalsely : Prop := fnExactSlopeOkRow.holds Try.pinned (OpenSpec.ofChange fnExactSlopeOkWrong)

/-- 'laws.FnExactDirectionWord': WHATEVER THE INPUT: true; the input reads as it did. -/
def fnExactDirectionWordSpec : ChangeSpec := { name := "fnExactDirectionWord", fn := fun _ => fun
  | [d1, d2] => { results := [.lit (.bool true)], args := [d1, d2] }
  | _ => none }
def fnExactDirectionWordRow : OpenClaim := { program := "ytpbbfbpggedgpaa", sum := "6ad50423e9cccc1170cbfa6b23289060cecd25dc3dc8e97209211c109579b58c", func := "loop.example/g00928/laws.FnExactDirectionWord", spec := "fnExactDirectionWord", apart := false }
def FnExactDirectionWordSaid : Prop := fnExactDirectionWordRow.holds Try.pinned (OpenSpec.ofChange fnExactDirectionWordSpec)

/-- ITS FALSE NEIGHBOUR: 'it returns false'. Refute it at one input. -/
def fnExactDirectionWordWrong : ChangeSpec := { name := "fnExactDirectionWord", fn := fun _ => fun
  | [d1, d2] => { results := [.lit (.bool false)], args := [d1, d2] }
  | _ => none }
def FnExactDirectionWordWrongFalsely : Prop := fnExactDirectionWordRow.holds Try.pinned (OpenSpec.ofChange fnExactDirectionWordWrong)

/-- 'laws.FnExactSlopeWord': WHATEVER THE INPUT: true; the input reads as it did. -/
def fnExactSlopeWordSpec : ChangeSpec := { name := "fnExactSlopeWord", fn := fun _ => fun
  | [d1, d2] => { results := [.lit (.bool true)], args := [d1, d2] }
  | _ => none }
def fnExactSlopeWordRow : OpenClaim := { program := "ytpbbfbpggedgpaa", sum := "6ad50423e9cccc1170cbfa6b23289060cecd25dc3dc8e97209211c109579b58c", func := "loop.example/g00928/laws.FnExactSlopeWord", spec := "fnExactSlopeWord", apart := false }
def FnExactSlopeWordSaid : Prop := fnExactSlopeWordRow.holds Try.pinned (OpenSpec.ofChange fnExactSlopeWordSpec)

/-- ITS FALSE NEIGHBOUR: 'it returns false'. Refute it at one input. -/
def fnExactSlopeWordWrong : ChangeSpec := { name := "fnExactSlopeWord", fn := fun _ => fun
  | [d1, d2] => { results := [.lit (.bool false)], args := [d1, d2] }
  | _ => none }
def FnExactSlopeWordWrongFalsely : Prop := fnExactSlopeWordRow.holds Try.pinned (OpenSpec.ofChange fnExactSlopeWordWrong)

/-- 'laws.FnExactPathPerm': WHATEVER THE INPUT: true; the input reads as it did. -/
def fnExactPathPermSpec : ChangeSpec := { name := "fnExactPathPerm", fn := fun _ => fun
  | [d1, d2, d3] => { results := [.lit (.bool true)], args := [d1, d2, d3] }
  | _ => none }
def fnExactPathPermRow : OpenClaim := { program := "ytpbbfbpggedgpaa", sum := "6ad50423e9cccc1170cbfa6b23289060cecd25dc3dc8e97209211c109579b58c", func := "loop.example/g00928/laws.FnExactPathPerm", spec := "fnExactPathPerm", apart := false }
def FnExactPathPermSaid : Prop := fnExactPathPermRow.holds Try.pinned (OpenSpec.ofChange fnExactPathPermSpec)

/-- ITS FALSE NEIGHBOUR: 'it returns false'. Refute it at one input. -/
def fnExactPathPermWrong : ChangeSpec := { name := "fnExactPathPerm", fn := fun _ => fun
  | [d1, d2, d3] => { results := [.lit (.bool false)], args := [d1, d2, d3] }
  | _ => none }
def FnExactPathPermWrongFalsely : Prop := fnExactPathPermRow.holds Try.pinned (OpenSpec.ofChange fnExactPathPermWrong)

/-- 'laws.FnExactCylindersIn': WHATEVER THE INPUT: true; the input reads as it did. -/
def fnExactCylindersInSpec : ChangeSpec := { name := "fnExactCylindersIn", fn := fun _ => fun
  | [d1, d2, d3] => { results := [.lit (.bool true)], args := [d1, d2, d3] }
  | _ => none }
def fnExactCylindersInRow : OpenClaim := { program := "ytpbbfbpggedgpaa", sum := "6ad50423e9cccc1170cbfa6b23289060cecd25dc3dc8e97209211c109579b58c", func := "loop.example/g00928/laws.FnExactCylindersIn", spec := "fnExactCylindersIn", inPlace := ["internal/bytealg.IndexByteString"], unfollowed := true, recurses := true, apart := false }
def FnExactCylindersInSaid : Prop := fnExactCylindersInRow.holds Try.pinned (OpenSpec.ofChange fnExactCylindersInSpec)

/-- ITS FALSE NEIGHBOUR: 'it returns false'. Refute it at one input. -/
def fnExactCylindersInWrong : ChangeSpec := { name := "fnExactCylindersIn", fn := fun _ => fun
  | [d1, d2, d3] => { results := [.lit (.bool false)], args := [d1, d2, d3] }
  | _ => none }
def FnExactCylindersInWrongFalsely : Prop := fnExactCylindersInRow.holds Try.pinned (OpenSpec.ofChange fnExactCylindersInWrong)

/-- 'laws.FnExactIsOneCylinder': WHATEVER THE INPUT: true; the input reads as it did. -/
def fnExactIsOneCylinderSpec : ChangeSpec := { name := "fnExactIsOneCylinder", fn := fun _ => fun
  | [d1, d2, d3] => { results := [.lit (.bool true)], args := [d1, d2, d3] }
  | _ => none }
def fnExactIsOneCylinderRow : OpenClaim := { program := "ytpbbfbpggedgpaa", sum := "6ad50423e9cccc1170cbfa6b23289060cecd25dc3dc8e97209211c109579b58c", func := "loop.example/g00928/laws.FnExactIsOneCylinder", spec := "fnExactIsOneCylinder", inPlace := ["internal/bytealg.IndexByteString"], unfollowed := true, recurses := true, apart := false }
def FnExactIsOneCylinderSaid : Prop := fnExactIsOneCylinderRow.holds Try.pinned (OpenSpec.ofChange fnExactIsOneCylinderSpec)

/-- ITS FALSE NEIGHBOUR: 'it returns false'. Refute it at one input. -/
def fnExactIsOneCylinderWrong : ChangeSpec := { name := "fnExactIsOneCylinder", fn := fun _ => fun
  | [d1, d2, d3] => { results := [.lit (.bool false)], args := [d1, d2, d3] }
  | _ => none }
def FnExactIsOneCylinderWrongFalsely : Prop := fnExactIsOneCylinderRow.holds Try.pinned (OpenSpec.ofChange fnExactIsOneCylinderWrong)

/- THE SECOND FORM. 'bulk': how many values and letters a reading holds, each counted each time it is reached (what is shared counts as often as it is met; a slice's spare places count too). A statement '..UptoSaid' is the law's where the arguments, and the package variables that the reading takes, are together of bulk at most 1048576: NARROWER than '..Said'. Prove '..Said' where nothing that the law and all that it calls make is longer than what came in: it says more and counts as full. Else prove '..UptoSaid'. A law counts once. -/
mutual
def uptoBulk {H : Type} : DataW H → Nat
  | .lit (.string bytes) => bytes.length + 1
  | .lit _ => 1
  | .nil => 1
  | .ptr d => uptoBulk d + 1
  | .slice elems spare => uptoBulkAll elems + uptoBulkAll spare + 1
  | .agg parts => uptoBulkAll parts + 1
  | .iface _ d => uptoBulk d + 1
  | .map entries => uptoBulkEntries entries + 1
  | .held _ => 1
def uptoBulkAll {H : Type} : List (DataW H) → Nat
  | [] => 0
  | d :: r => uptoBulk d + uptoBulkAll r
def uptoBulkEntries {H : Type} : List (Lit × DataW H) → Nat
  | [] => 0
  | x :: r => uptoBulkEntry x + uptoBulkEntries r
def uptoBulkEntry {H : Type} : Lit × DataW H → Nat
  | (.string bytes, d) => bytes.length + uptoBulk d + 1
  | (_, d) => uptoBulk d + 1
 end
def uptoSmall : (H : Type) → List (DataW H) → Bool := fun _ ds => decide (uptoBulkAll ds ≤ 1048576)
def OpenSpec.upto (s : _root_.Go.ChangeSpec) : _root_.Go.OpenSpec := { _root_.Go.OpenSpec.ofChange s with cond := some uptoSmall }

/-- 'laws.FnExactSlopeOk', WHERE WHAT IT READS IS OF BULK AT MOST 1048576: true; the input reads as it did. -/
def fnExactSlopeOkUptoRow : OpenClaim := { program := "ytpbbfbpggedgpaa", sum := "6ad50423e9cccc1170cbfa6b23289060cecd25dc3dc8e97209211c109579b58c", func := "loop.example/g00928/laws.FnExactSlopeOk", spec := "fnExactSlopeOk", apart := false, narrowed := true }
def FnExactSlopeOkUptoSaid : Prop := fnExactSlopeOkUptoRow.holds Try.pinned (OpenSpec.upto fnExactSlopeOkSpec)

/-- 'laws.FnExactDirectionWord', WHERE WHAT IT READS IS OF BULK AT MOST 1048576: true; the input reads as it did. -/
def fnExactDirectionWordUptoRow : OpenClaim := { program := "ytpbbfbpggedgpaa", sum := "6ad50423e9cccc1170cbfa6b23289060cecd25dc3dc8e97209211c109579b58c", func := "loop.example/g00928/laws.FnExactDirectionWord", spec := "fnExactDirectionWord", apart := false, narrowed := true }
def FnExactDirectionWordUptoSaid : Prop := fnExactDirectionWordUptoRow.holds Try.pinned (OpenSpec.upto fnExactDirectionWordSpec)

/-- 'laws.FnExactSlopeWord', WHERE WHAT IT READS IS OF BULK AT MOST 1048576: true; the input reads as it did. -/
def fnExactSlopeWordUptoRow : OpenClaim := { program := "ytpbbfbpggedgpaa", sum := "6ad50423e9cccc1170cbfa6b23289060cecd25dc3dc8e97209211c109579b58c", func := "loop.example/g00928/laws.FnExactSlopeWord", spec := "fnExactSlopeWord", apart := false, narrowed := true }
def FnExactSlopeWordUptoSaid : Prop := fnExactSlopeWordUptoRow.holds Try.pinned (OpenSpec.upto fnExactSlopeWordSpec)

/-- 'laws.FnExactPathPerm', WHERE WHAT IT READS IS OF BULK AT MOST 1048576: true; the input reads as it did. -/
def fnExactPathPermUptoRow : OpenClaim := { program := "ytpbbfbpggedgpaa", sum := "6ad50423e9cccc1170cbfa6b23289060cecd25dc3dc8e97209211c109579b58c", func := "loop.example/g00928/laws.FnExactPathPerm", spec := "fnExactPathPerm", apart := false, narrowed := true }
def FnExactPathPermUptoSaid : Prop := fnExactPathPermUptoRow.holds Try.pinned (OpenSpec.upto fnExactPathPermSpec)

/-- 'laws.FnExactCylindersIn', WHERE WHAT IT READS IS OF BULK AT MOST 1048576: true; the input reads as it did. -/
def fnExactCylindersInUptoRow : OpenClaim := { program := "ytpbbfbpggedgpaa", sum := "6ad50423e9cccc1170cbfa6b23289060cecd25dc3dc8e97209211c109579b58c", func := "loop.example/g00928/laws.FnExactCylindersIn", spec := "fnExactCylindersIn", inPlace := ["internal/bytealg.IndexByteString"], unfollowed := true, recurses := true, apart := false, narrowed := true }
def FnExactCylindersInUptoSaid : Prop := fnExactCylindersInUptoRow.holds Try.pinned (OpenSpec.upto fnExactCylindersInSpec)

/-- 'laws.FnExactIsOneCylinder', WHERE WHAT IT READS IS OF BULK AT MOST 1048576: true; the input reads as it did. -/
def fnExactIsOneCylinderUptoRow : OpenClaim := { program := "ytpbbfbpggedgpaa", sum := "6ad50423e9cccc1170cbfa6b23289060cecd25dc3dc8e97209211c109579b58c", func := "loop.example/g00928/laws.FnExactIsOneCylinder", spec := "fnExactIsOneCylinder", inPlace := ["internal/bytealg.IndexByteString"], unfollowed := true, recurses := true, apart := false, narrowed := true }
def FnExactIsOneCylinderUptoSaid : Prop := fnExactIsOneCylinderUptoRow.holds Try.pinned (OpenSpec.upto fnExactIsOneCylinderSpec)

end Rows
end Go.Proofs.Ytpbbfbpggedgpaa

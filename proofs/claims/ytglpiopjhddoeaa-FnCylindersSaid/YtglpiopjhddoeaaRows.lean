/-
  No cell of these rows narrows 'for every input' (looked for: loops, veiled, ifaces, maps, wideKeys, modest, calm, conditions, laid).
  DERIVED. THE GIVEN ROWS OF THIS SEAT. 6 by the template 'for every input the law returns true; each argument reads behind the call as it read before'; 0 by the template 'total and deterministic' (their statements: YtglpiopjhddoeaaTotals.lean).
  GIVEN WITH THE SEED: the statements are not yours to turn. If you find one false, say at which input.
  Laid BY PROGRAM, IN A SANDBOX (cutbox-rows.mjs): the forced cells as the released guide's own fill.sh prints them over the translation 5d8fe8445114411e… (all of the seat's roots in one cut). By AI agents, Wed Nov 11 2026. No macro, syntax, notation, axiom, sorry.
-/
import Derived.Test.YtglpiopjhddoeaaChecked
import GoSem.Claim
import GoSem.ClaimJoined
import GoSem.ClaimMapViews
import Derived.JoinedTies
import Derived.KernelRfl
namespace Go.Proofs.Ytglpiopjhddoeaa
/- THE CELL 'sum', in the pinned program and in every row, IS THE sha256 OF THE DUMP (.gsa) THAT YtglpiopjhddoeaaProg.lean LOADS. Nothing in Lean hashes anything: it is a label: what it is worth is what the hold of that sum in a sandbox is worth. -/
noncomputable def Try.pinned : Pinned := { name := "ytglpiopjhddoeaa", sum := "5d8fe8445114411eb1dfb4f2aaaa5ac40c9947cf3ad69ab4c48a4ff8a26f3946", checked := Try.checked }
namespace Rows
def none {H : Type} : Left H := { results := [], args := [] }

/-- 'laws.FnCylinders': WHATEVER THE INPUT: true; the input reads as it did. -/
def fnCylindersSpec : ChangeSpec := { name := "fnCylinders", fn := fun _ => fun
  | [d] => { results := [.lit (.bool true)], args := [d] }
  | _ => none }
def fnCylindersRow : OpenClaim := { program := "ytglpiopjhddoeaa", sum := "5d8fe8445114411eb1dfb4f2aaaa5ac40c9947cf3ad69ab4c48a4ff8a26f3946", func := "loop.example/g00928/laws.FnCylinders", spec := "fnCylinders", apart := false }
def FnCylindersSaid : Prop := fnCylindersRow.holds Try.pinned (OpenSpec.ofChange fnCylindersSpec)

/-- ITS FALSE NEIGHBOUR: 'it returns false'. Refute it at one input. -/
def fnCylindersWrong : ChangeSpec := { name := "fnCylinders", fn := fun _ => fun
  | [d] => { results := [.lit (.bool false)], args := [d] }
  | _ => none }
def FnCylindersWrongFalsely : Prop := fnCylindersRow.holds Try.pinned (OpenSpec.ofChange fnCylindersWrong)

/-- 'laws.FnExactRowsOf': WHATEVER THE INPUT: true; the input reads as it did. -/
def fnExactRowsOfSpec : ChangeSpec := { name := "fnExactRowsOf", fn := fun _ => fun
  | [d] => { results := [.lit (.bool true)], args := [d] }
  | _ => none }
def fnExactRowsOfRow : OpenClaim := { program := "ytglpiopjhddoeaa", sum := "5d8fe8445114411eb1dfb4f2aaaa5ac40c9947cf3ad69ab4c48a4ff8a26f3946", func := "loop.example/g00928/laws.FnExactRowsOf", spec := "fnExactRowsOf", apart := false }
def FnExactRowsOfSaid : Prop := fnExactRowsOfRow.holds Try.pinned (OpenSpec.ofChange fnExactRowsOfSpec)

/-- ITS FALSE NEIGHBOUR: 'it returns false'. Refute it at one input. -/
def fnExactRowsOfWrong : ChangeSpec := { name := "fnExactRowsOf", fn := fun _ => fun
  | [d] => { results := [.lit (.bool false)], args := [d] }
  | _ => none }
def FnExactRowsOfWrongFalsely : Prop := fnExactRowsOfRow.holds Try.pinned (OpenSpec.ofChange fnExactRowsOfWrong)

/-- 'laws.FnExactRowAbove': WHATEVER THE INPUT: true; the input reads as it did. -/
def fnExactRowAboveSpec : ChangeSpec := { name := "fnExactRowAbove", fn := fun _ => fun
  | [d1, d2] => { results := [.lit (.bool true)], args := [d1, d2] }
  | _ => none }
def fnExactRowAboveRow : OpenClaim := { program := "ytglpiopjhddoeaa", sum := "5d8fe8445114411eb1dfb4f2aaaa5ac40c9947cf3ad69ab4c48a4ff8a26f3946", func := "loop.example/g00928/laws.FnExactRowAbove", spec := "fnExactRowAbove", apart := false }
def FnExactRowAboveSaid : Prop := fnExactRowAboveRow.holds Try.pinned (OpenSpec.ofChange fnExactRowAboveSpec)

/-- ITS FALSE NEIGHBOUR: 'it returns false'. Refute it at one input. -/
def fnExactRowAboveWrong : ChangeSpec := { name := "fnExactRowAbove", fn := fun _ => fun
  | [d1, d2] => { results := [.lit (.bool false)], args := [d1, d2] }
  | _ => none }
def FnExactRowAboveWrongFalsely : Prop := fnExactRowAboveRow.holds Try.pinned (OpenSpec.ofChange fnExactRowAboveWrong)

/-- 'laws.FnExactCylindersOf': WHATEVER THE INPUT: true; the input reads as it did. -/
def fnExactCylindersOfSpec : ChangeSpec := { name := "fnExactCylindersOf", fn := fun _ => fun
  | [d] => { results := [.lit (.bool true)], args := [d] }
  | _ => none }
def fnExactCylindersOfRow : OpenClaim := { program := "ytglpiopjhddoeaa", sum := "5d8fe8445114411eb1dfb4f2aaaa5ac40c9947cf3ad69ab4c48a4ff8a26f3946", func := "loop.example/g00928/laws.FnExactCylindersOf", spec := "fnExactCylindersOf", apart := false }
def FnExactCylindersOfSaid : Prop := fnExactCylindersOfRow.holds Try.pinned (OpenSpec.ofChange fnExactCylindersOfSpec)

/-- ITS FALSE NEIGHBOUR: 'it returns false'. Refute it at one input. -/
def fnExactCylindersOfWrong : ChangeSpec := { name := "fnExactCylindersOf", fn := fun _ => fun
  | [d] => { results := [.lit (.bool false)], args := [d] }
  | _ => none }
def FnExactCylindersOfWrongFalsely : Prop := fnExactCylindersOfRow.holds Try.pinned (OpenSpec.ofChange fnExactCylindersOfWrong)

/-- 'laws.FnExactAreaOf': WHATEVER THE INPUT: true; the input reads as it did. -/
def fnExactAreaOfSpec : ChangeSpec := { name := "fnExactAreaOf", fn := fun _ => fun
  | [d] => { results := [.lit (.bool true)], args := [d] }
  | _ => none }
def fnExactAreaOfRow : OpenClaim := { program := "ytglpiopjhddoeaa", sum := "5d8fe8445114411eb1dfb4f2aaaa5ac40c9947cf3ad69ab4c48a4ff8a26f3946", func := "loop.example/g00928/laws.FnExactAreaOf", spec := "fnExactAreaOf", apart := false }
def FnExactAreaOfSaid : Prop := fnExactAreaOfRow.holds Try.pinned (OpenSpec.ofChange fnExactAreaOfSpec)

/-- ITS FALSE NEIGHBOUR: 'it returns false'. Refute it at one input. -/
def fnExactAreaOfWrong : ChangeSpec := { name := "fnExactAreaOf", fn := fun _ => fun
  | [d] => { results := [.lit (.bool false)], args := [d] }
  | _ => none }
def FnExactAreaOfWrongFalsely : Prop := fnExactAreaOfRow.holds Try.pinned (OpenSpec.ofChange fnExactAreaOfWrong)

/-- 'laws.FnExactLeastShears': WHATEVER THE INPUT: true; the input reads as it did. -/
def fnExactLeastShearsSpec : ChangeSpec := { name := "fnExactLeastShears", fn := fun _ => fun
  | [d] => { results := [.lit (.bool true)], args := [d] }
  | _ => none }
def fnExactLeastShearsRow : OpenClaim := { program := "ytglpiopjhddoeaa", sum := "5d8fe8445114411eb1dfb4f2aaaa5ac40c9947cf3ad69ab4c48a4ff8a26f3946", func := "loop.example/g00928/laws.FnExactLeastShears", spec := "fnExactLeastShears", apart := false }
def FnExactLeastShearsSaid : Prop := fnExactLeastShearsRow.holds Try.pinned (OpenSpec.ofChange fnExactLeastShearsSpec)

/-- ITS FALSE NEIGHBOUR: 'it returns false'. Refute it at one input. -/
def fnExactLeastShearsWrong : ChangeSpec := { name := "fnExactLeastShears", fn := fun _ => fun
  | [d] => { results := [.lit (.bool false)], args := [d] }
  | _ => none }
def FnExactLeastShearsWrongFalsely : Prop := fnExactLeastShearsRow.holds Try.pinned (OpenSpec.ofChange fnExactLeastShearsWrong)

/- THE SECOND FORM. 'bulk': how many values and letters a reading holds, each counted each time it is reached (what is shared counts as often as it is met; a slice's spare places count too). A statement '..UptoSaid' is the law's where the arguments, and the package variables that the reading takes, are together of bulk at most 1048576: NARROWER than '..Said'. Prove '..Said' where nothing that the law and all that it calls make is longer than what came in: it says more and counts as full. Else prove '..UptoSaid'. A law counts once. -/
mutual
def uptoBulk {H : Type} : DataW H → Nat
  | .lit (.string bytes) => bytes.length + 1
  | .lit _ => 1
  | .nil => 1
  | .ptr d => uptoBulk d + 1
  | .slice elems spare => uptoBulkAll elems + uptoBulkAll spare + 1
  | .agg parts => uptoBulkAll parts + 1
  | .iface _ d => uptoBulk d + 1
  | .map entries => uptoBulkEntries entries + 1
  | .held _ => 1
def uptoBulkAll {H : Type} : List (DataW H) → Nat
  | [] => 0
  | d :: r => uptoBulk d + uptoBulkAll r
def uptoBulkEntries {H : Type} : List (Lit × DataW H) → Nat
  | [] => 0
  | x :: r => uptoBulkEntry x + uptoBulkEntries r
def uptoBulkEntry {H : Type} : Lit × DataW H → Nat
  | (.string bytes, d) => bytes.length + uptoBulk d + 1
  | (_, d) => uptoBulk d + 1
 end
def uptoSmall : (H : Type) → List (DataW H) → Bool := fun _ ds => decide (uptoBulkAll ds ≤ 1048576)
def OpenSpec.upto (s : _root_.Go.ChangeSpec) : _root_.Go.OpenSpec := { _root_.Go.OpenSpec.ofChange s with cond := some uptoSmall }

/-- 'laws.FnCylinders', WHERE WHAT IT READS IS OF BULK AT MOST 1048576: true; the input reads as it did. -/
def fnCylindersUptoRow : OpenClaim := { program := "ytglpiopjhddoeaa", sum := "5d8fe8445114411eb1dfb4f2aaaa5ac40c9947cf3ad69ab4c48a4ff8a26f3946", func := "loop.example/g00928/laws.FnCylinders", spec := "fnCylinders", apart := false, narrowed := true }
def FnCylindersUptoSaid : Prop := fnCylindersUptoRow.holds Try.pinned (OpenSpec.upto fnCylindersSpec)

/-- 'laws.FnExactRowsOf', WHERE WHAT IT READS IS OF BULK AT MOST 1048576: true; the input reads as it did. -/
def fnExactRowsOfUptoRow : OpenClaim := { program := "ytglpiopjhddoeaa", sum := "5d8fe8445114411eb1dfb4f2aaaa5ac40c9947cf3ad69ab4c48a4ff8a26f3946", func := "loop.example/g00928/laws.FnExactRowsOf", spec := "fnExactRowsOf", apart := false, narrowed := true }
def FnExactRowsOfUptoSaid : Prop := fnExactRowsOfUptoRow.holds Try.pinned (OpenSpec.upto fnExactRowsOfSpec)

/-- 'laws.FnExactRowAbove', WHERE WHAT IT READS IS OF BULK AT MOST 1048576: true; the input reads as it did. -/
def fnExactRowAboveUptoRow : OpenClaim := { program := "ytglpiopjhddoeaa", sum := "5d8fe8445114411eb1dfb4f2aaaa5ac40c9947cf3ad69ab4c48a4ff8a26f3946", func := "loop.example/g00928/laws.FnExactRowAbove", spec := "fnExactRowAbove", apart := false, narrowed := true }
def FnExactRowAboveUptoSaid : Prop := fnExactRowAboveUptoRow.holds Try.pinned (OpenSpec.upto fnExactRowAboveSpec)

/-- 'laws.FnExactCylindersOf', WHERE WHAT IT READS IS OF BULK AT MOST 1048576: true; the input reads as it did. -/
def fnExactCylindersOfUptoRow : OpenClaim := { program := "ytglpiopjhddoeaa", sum := "5d8fe8445114411eb1dfb4f2aaaa5ac40c9947cf3ad69ab4c48a4ff8a26f3946", func := "loop.example/g00928/laws.FnExactCylindersOf", spec := "fnExactCylindersOf", apart := false, narrowed := true }
def FnExactCylindersOfUptoSaid : Prop := fnExactCylindersOfUptoRow.holds Try.pinned (OpenSpec.upto fnExactCylindersOfSpec)

/-- 'laws.FnExactAreaOf', WHERE WHAT IT READS IS OF BULK AT MOST 1048576: true; the input reads as it did. -/
def fnExactAreaOfUptoRow : OpenClaim := { program := "ytglpiopjhddoeaa", sum := "5d8fe8445114411eb1dfb4f2aaaa5ac40c9947cf3ad69ab4c48a4ff8a26f3946", func := "loop.example/g00928/laws.FnExactAreaOf", spec := "fnExactAreaOf", apart := false, narrowed := true }
def FnExactAreaOfUptoSaid : Prop := fnExactAreaOfUptoRow.holds Try.pinned (OpenSpec.upto fnExactAreaOfSpec)

/-- 'laws.FnExactLeastShears', WHERE WHAT IT READS IS OF BULK AT MOST 1048576: true; the input reads as it did. -/
def fnExactLeastShearsUptoRow : OpenClaim := { program := "ytglpiopjhddoeaa", sum := "5d8fe8445114411eb1dfb4f2aaaa5ac40c9947cf3ad69ab4c48a4ff8a26f3946", func := "loop.example/g00928/laws.FnExactLeastShears", spec := "fnExactLeastShears", apart := false, narrowed := true }
def FnExactLeastShearsUptoSaid : Prop := fnExactLeastShearsUptoRow.holds Try.pinned (OpenSpec.upto fnExactLeastShearsSpec)

end Rows
end Go.Proofs.Ytglpiopjhddoeaa

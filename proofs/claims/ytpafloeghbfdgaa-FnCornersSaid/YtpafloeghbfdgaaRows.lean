/-
  No cell of these rows narrows 'for every input' (looked for: loops, veiled, ifaces, maps, wideKeys, modest, calm, conditions, laid).
  DERIVED. THE GIVEN ROWS OF THIS SEAT. 10 by the template 'for every input the law returns true; each argument reads behind the call as it read before'; 0 by the template 'total and deterministic' (their statements: YtpafloeghbfdgaaTotals.lean).
  GIVEN WITH THE SEED: the statements are not yours to turn. If you find one false, say at which input.
  Laid BY PROGRAM, IN A SANDBOX (cutbox-rows.mjs): the forced cells as the released guide's own fill.sh prints them over the translation fff6d83c5f1b6d1b… (all of the seat's roots in one cut). By AI agents, Wed Nov 11 2026. No macro, syntax, notation, axiom, sorry.
-/
import Derived.Test.YtpafloeghbfdgaaChecked
import GoSem.Claim
import GoSem.ClaimJoined
import GoSem.ClaimMapViews
import Derived.JoinedTies
import Derived.KernelRfl
namespace Go.Proofs.Ytpafloeghbfdgaa
/- THE CELL 'sum', in the pinned program and in every row, IS THE sha256 OF THE DUMP (.gsa) THAT YtpafloeghbfdgaaProg.lean LOADS. Nothing in Lean hashes anything: it is a label: what it is worth is what the hold of that sum in a sandbox is worth. -/
noncomputable def Try.pinned : Pinned := { name := "ytpafloeghbfdgaa", sum := "fff6d83c5f1b6d1b4215fd562b553d8fad23a4b43ae213a34ac43b94496740c8", checked := Try.checked }
namespace Rows
def none {H : Type} : Left H := { results := [], args := [] }

/-- 'laws.FnCorners': WHATEVER THE INPUT: true; the input reads as it did. -/
def fnCornersSpec : ChangeSpec := { name := "fnCorners", fn := fun _ => fun
  | [d] => { results := [.lit (.bool true)], args := [d] }
  | _ => none }
def fnCornersRow : OpenClaim := { program := "ytpafloeghbfdgaa", sum := "fff6d83c5f1b6d1b4215fd562b553d8fad23a4b43ae213a34ac43b94496740c8", func := "loop.example/g00928/laws.FnCorners", spec := "fnCorners", unfollowed := true, recurses := true, apart := false }
def FnCornersSaid : Prop := fnCornersRow.holds Try.pinned (OpenSpec.ofChange fnCornersSpec)

/-- ITS FALSE NEIGHBOUR: 'it returns false'. Refute it at one input. -/
def fnCornersWrong : ChangeSpec := { name := "fnCorners", fn := fun _ => fun
  | [d] => { results := [.lit (.bool false)], args := [d] }
  | _ => none }
def FnCornersWrongFalsely : Prop := fnCornersRow.holds Try.pinned (OpenSpec.ofChange fnCornersWrong)

/-- 'laws.FnExactAroundOf': WHATEVER THE INPUT: true; the input reads as it did. -/
def fnExactAroundOfSpec : ChangeSpec := { name := "fnExactAroundOf", fn := fun _ => fun
  | [d] => { results := [.lit (.bool true)], args := [d] }
  | _ => none }
def fnExactAroundOfRow : OpenClaim := { program := "ytpafloeghbfdgaa", sum := "fff6d83c5f1b6d1b4215fd562b553d8fad23a4b43ae213a34ac43b94496740c8", func := "loop.example/g00928/laws.FnExactAroundOf", spec := "fnExactAroundOf", apart := false }
def FnExactAroundOfSaid : Prop := fnExactAroundOfRow.holds Try.pinned (OpenSpec.ofChange fnExactAroundOfSpec)

/-- ITS FALSE NEIGHBOUR: 'it returns false'. Refute it at one input. -/
def fnExactAroundOfWrong : ChangeSpec := { name := "fnExactAroundOf", fn := fun _ => fun
  | [d] => { results := [.lit (.bool false)], args := [d] }
  | _ => none }
def FnExactAroundOfWrongFalsely : Prop := fnExactAroundOfRow.holds Try.pinned (OpenSpec.ofChange fnExactAroundOfWrong)

/-- 'laws.FnExactCornersOf': WHATEVER THE INPUT: true; the input reads as it did. -/
def fnExactCornersOfSpec : ChangeSpec := { name := "fnExactCornersOf", fn := fun _ => fun
  | [d] => { results := [.lit (.bool true)], args := [d] }
  | _ => none }
def fnExactCornersOfRow : OpenClaim := { program := "ytpafloeghbfdgaa", sum := "fff6d83c5f1b6d1b4215fd562b553d8fad23a4b43ae213a34ac43b94496740c8", func := "loop.example/g00928/laws.FnExactCornersOf", spec := "fnExactCornersOf", unfollowed := true, recurses := true, apart := false }
def FnExactCornersOfSaid : Prop := fnExactCornersOfRow.holds Try.pinned (OpenSpec.ofChange fnExactCornersOfSpec)

/-- ITS FALSE NEIGHBOUR: 'it returns false'. Refute it at one input. -/
def fnExactCornersOfWrong : ChangeSpec := { name := "fnExactCornersOf", fn := fun _ => fun
  | [d] => { results := [.lit (.bool false)], args := [d] }
  | _ => none }
def FnExactCornersOfWrongFalsely : Prop := fnExactCornersOfRow.holds Try.pinned (OpenSpec.ofChange fnExactCornersOfWrong)

/-- 'laws.FnExactAnglesOf': WHATEVER THE INPUT: true; the input reads as it did. -/
def fnExactAnglesOfSpec : ChangeSpec := { name := "fnExactAnglesOf", fn := fun _ => fun
  | [d] => { results := [.lit (.bool true)], args := [d] }
  | _ => none }
def fnExactAnglesOfRow : OpenClaim := { program := "ytpafloeghbfdgaa", sum := "fff6d83c5f1b6d1b4215fd562b553d8fad23a4b43ae213a34ac43b94496740c8", func := "loop.example/g00928/laws.FnExactAnglesOf", spec := "fnExactAnglesOf", unfollowed := true, recurses := true, apart := false }
def FnExactAnglesOfSaid : Prop := fnExactAnglesOfRow.holds Try.pinned (OpenSpec.ofChange fnExactAnglesOfSpec)

/-- ITS FALSE NEIGHBOUR: 'it returns false'. Refute it at one input. -/
def fnExactAnglesOfWrong : ChangeSpec := { name := "fnExactAnglesOf", fn := fun _ => fun
  | [d] => { results := [.lit (.bool false)], args := [d] }
  | _ => none }
def FnExactAnglesOfWrongFalsely : Prop := fnExactAnglesOfRow.holds Try.pinned (OpenSpec.ofChange fnExactAnglesOfWrong)

/-- 'laws.FnExactStratumOf': WHATEVER THE INPUT: true; the input reads as it did. -/
def fnExactStratumOfSpec : ChangeSpec := { name := "fnExactStratumOf", fn := fun _ => fun
  | [d] => { results := [.lit (.bool true)], args := [d] }
  | _ => none }
def fnExactStratumOfRow : OpenClaim := { program := "ytpafloeghbfdgaa", sum := "fff6d83c5f1b6d1b4215fd562b553d8fad23a4b43ae213a34ac43b94496740c8", func := "loop.example/g00928/laws.FnExactStratumOf", spec := "fnExactStratumOf", unfollowed := true, recurses := true, apart := false }
def FnExactStratumOfSaid : Prop := fnExactStratumOfRow.holds Try.pinned (OpenSpec.ofChange fnExactStratumOfSpec)

/-- ITS FALSE NEIGHBOUR: 'it returns false'. Refute it at one input. -/
def fnExactStratumOfWrong : ChangeSpec := { name := "fnExactStratumOf", fn := fun _ => fun
  | [d] => { results := [.lit (.bool false)], args := [d] }
  | _ => none }
def FnExactStratumOfWrongFalsely : Prop := fnExactStratumOfRow.holds Try.pinned (OpenSpec.ofChange fnExactStratumOfWrong)

/-- 'laws.FnExactGenusOf': WHATEVER THE INPUT: true; the input reads as it did. -/
def fnExactGenusOfSpec : ChangeSpec := { name := "fnExactGenusOf", fn := fun _ => fun
  | [d] => { results := [.lit (.bool true)], args := [d] }
  | _ => none }
def fnExactGenusOfRow : OpenClaim := { program := "ytpafloeghbfdgaa", sum := "fff6d83c5f1b6d1b4215fd562b553d8fad23a4b43ae213a34ac43b94496740c8", func := "loop.example/g00928/laws.FnExactGenusOf", spec := "fnExactGenusOf", unfollowed := true, recurses := true, apart := false }
def FnExactGenusOfSaid : Prop := fnExactGenusOfRow.holds Try.pinned (OpenSpec.ofChange fnExactGenusOfSpec)

/-- ITS FALSE NEIGHBOUR: 'it returns false'. Refute it at one input. -/
def fnExactGenusOfWrong : ChangeSpec := { name := "fnExactGenusOf", fn := fun _ => fun
  | [d] => { results := [.lit (.bool false)], args := [d] }
  | _ => none }
def FnExactGenusOfWrongFalsely : Prop := fnExactGenusOfRow.holds Try.pinned (OpenSpec.ofChange fnExactGenusOfWrong)

/-- 'laws.FnExactIsRegularCorner': WHATEVER THE INPUT: true; the input reads as it did. -/
def fnExactIsRegularCornerSpec : ChangeSpec := { name := "fnExactIsRegularCorner", fn := fun _ => fun
  | [d1, d2] => { results := [.lit (.bool true)], args := [d1, d2] }
  | _ => none }
def fnExactIsRegularCornerRow : OpenClaim := { program := "ytpafloeghbfdgaa", sum := "fff6d83c5f1b6d1b4215fd562b553d8fad23a4b43ae213a34ac43b94496740c8", func := "loop.example/g00928/laws.FnExactIsRegularCorner", spec := "fnExactIsRegularCorner", unfollowed := true, recurses := true, apart := false }
def FnExactIsRegularCornerSaid : Prop := fnExactIsRegularCornerRow.holds Try.pinned (OpenSpec.ofChange fnExactIsRegularCornerSpec)

/-- ITS FALSE NEIGHBOUR: 'it returns false'. Refute it at one input. -/
def fnExactIsRegularCornerWrong : ChangeSpec := { name := "fnExactIsRegularCorner", fn := fun _ => fun
  | [d1, d2] => { results := [.lit (.bool false)], args := [d1, d2] }
  | _ => none }
def FnExactIsRegularCornerWrongFalsely : Prop := fnExactIsRegularCornerRow.holds Try.pinned (OpenSpec.ofChange fnExactIsRegularCornerWrong)

/-- 'laws.FnCanon': WHATEVER THE INPUT: true; the input reads as it did. -/
def fnCanonSpec : ChangeSpec := { name := "fnCanon", fn := fun _ => fun
  | [d] => { results := [.lit (.bool true)], args := [d] }
  | _ => none }
def fnCanonRow : OpenClaim := { program := "ytpafloeghbfdgaa", sum := "fff6d83c5f1b6d1b4215fd562b553d8fad23a4b43ae213a34ac43b94496740c8", func := "loop.example/g00928/laws.FnCanon", spec := "fnCanon", apart := false }
def FnCanonSaid : Prop := fnCanonRow.holds Try.pinned (OpenSpec.ofChange fnCanonSpec)

/-- ITS FALSE NEIGHBOUR: 'it returns false'. Refute it at one input. -/
def fnCanonWrong : ChangeSpec := { name := "fnCanon", fn := fun _ => fun
  | [d] => { results := [.lit (.bool false)], args := [d] }
  | _ => none }
def FnCanonWrongFalsely : Prop := fnCanonRow.holds Try.pinned (OpenSpec.ofChange fnCanonWrong)

/-- 'laws.FnExactTorusOf': WHATEVER THE INPUT: true; the input reads as it did. -/
def fnExactTorusOfSpec : ChangeSpec := { name := "fnExactTorusOf", fn := fun _ => fun
  | [d1, d2] => { results := [.lit (.bool true)], args := [d1, d2] }
  | _ => none }
def fnExactTorusOfRow : OpenClaim := { program := "ytpafloeghbfdgaa", sum := "fff6d83c5f1b6d1b4215fd562b553d8fad23a4b43ae213a34ac43b94496740c8", func := "loop.example/g00928/laws.FnExactTorusOf", spec := "fnExactTorusOf", apart := false }
def FnExactTorusOfSaid : Prop := fnExactTorusOfRow.holds Try.pinned (OpenSpec.ofChange fnExactTorusOfSpec)

/-- ITS FALSE NEIGHBOUR: 'it returns false'. Refute it at one input. -/
def fnExactTorusOfWrong : ChangeSpec := { name := "fnExactTorusOf", fn := fun _ => fun
  | [d1, d2] => { results := [.lit (.bool false)], args := [d1, d2] }
  | _ => none }
def FnExactTorusOfWrongFalsely : Prop := fnExactTorusOfRow.holds Try.pinned (OpenSpec.ofChange fnExactTorusOfWrong)

/-- 'laws.FnExactEllOf': WHATEVER THE INPUT: true; the input reads as it did. -/
def fnExactEllOfSpec : ChangeSpec := { name := "fnExactEllOf", fn := fun _ => fun
  | [d1, d2] => { results := [.lit (.bool true)], args := [d1, d2] }
  | _ => none }
def fnExactEllOfRow : OpenClaim := { program := "ytpafloeghbfdgaa", sum := "fff6d83c5f1b6d1b4215fd562b553d8fad23a4b43ae213a34ac43b94496740c8", func := "loop.example/g00928/laws.FnExactEllOf", spec := "fnExactEllOf", apart := false }
def FnExactEllOfSaid : Prop := fnExactEllOfRow.holds Try.pinned (OpenSpec.ofChange fnExactEllOfSpec)

/-- ITS FALSE NEIGHBOUR: 'it returns false'. Refute it at one input. -/
def fnExactEllOfWrong : ChangeSpec := { name := "fnExactEllOf", fn := fun _ => fun
  | [d1, d2] => { results := [.lit (.bool false)], args := [d1, d2] }
  | _ => none }
def FnExactEllOfWrongFalsely : Prop := fnExactEllOfRow.holds Try.pinned (OpenSpec.ofChange fnExactEllOfWrong)

/- THE SECOND FORM. 'bulk': how many values and letters a reading holds, each counted each time it is reached (what is shared counts as often as it is met; a slice's spare places count too). A statement '..UptoSaid' is the law's where the arguments, and the package variables that the reading takes, are together of bulk at most 1048576: NARROWER than '..Said'. Prove '..Said' where nothing that the law and all that it calls make is longer than what came in: it says more and counts as full. Else prove '..UptoSaid'. A law counts once. -/
mutual
def uptoBulk {H : Type} : DataW H → Nat
  | .lit (.string bytes) => bytes.length + 1
  | .lit _ => 1
  | .nil => 1
  | .ptr d => uptoBulk d + 1
  | .slice elems spare => uptoBulkAll elems + uptoBulkAll spare + 1
  | .agg parts => uptoBulkAll parts + 1
  | .iface _ d => uptoBulk d + 1
  | .map entries => uptoBulkEntries entries + 1
  | .held _ => 1
def uptoBulkAll {H : Type} : List (DataW H) → Nat
  | [] => 0
  | d :: r => uptoBulk d + uptoBulkAll r
def uptoBulkEntries {H : Type} : List (Lit × DataW H) → Nat
  | [] => 0
  | x :: r => uptoBulkEntry x + uptoBulkEntries r
def uptoBulkEntry {H : Type} : Lit × DataW H → Nat
  | (.string bytes, d) => bytes.length + uptoBulk d + 1
  | (_, d) => uptoBulk d + 1
 end
def uptoSmall : (H : Type) → List (DataW H) → Bool := fun _ ds => decide (uptoBulkAll ds ≤ 1048576)
def OpenSpec.upto (s : _root_.Go.ChangeSpec) : _root_.Go.OpenSpec := { _root_.Go.OpenSpec.ofChange s with cond := some uptoSmall }

/-- 'laws.FnCorners', WHERE WHAT IT READS IS OF BULK AT MOST 1048576: true; the input reads as it did. -/
def fnCornersUptoRow : OpenClaim := { program := "ytpafloeghbfdgaa", sum := "fff6d83c5f1b6d1b4215fd562b553d8fad23a4b43ae213a34ac43b94496740c8", func := "loop.example/g00928/laws.FnCorners", spec := "fnCorners", unfollowed := true, recurses := true, apart := false, narrowed := true }
def FnCornersUptoSaid : Prop := fnCornersUptoRow.holds Try.pinned (OpenSpec.upto fnCornersSpec)

/-- 'laws.FnExactAroundOf', WHERE WHAT IT READS IS OF BULK AT MOST 1048576: true; the input reads as it did. -/
def fnExactAroundOfUptoRow : OpenClaim := { program := "ytpafloeghbfdgaa", sum := "fff6d83c5f1b6d1b4215fd562b553d8fad23a4b43ae213a34ac43b94496740c8", func := "loop.example/g00928/laws.FnExactAroundOf", spec := "fnExactAroundOf", apart := false, narrowed := true }
def FnExactAroundOfUptoSaid : Prop := fnExactAroundOfUptoRow.holds Try.pinned (OpenSpec.upto fnExactAroundOfSpec)

/-- 'laws.FnExactCornersOf', WHERE WHAT IT READS IS OF BULK AT MOST 1048576: true; the input reads as it did. -/
def fnExactCornersOfUptoRow : OpenClaim := { program := "ytpafloeghbfdgaa", sum := "fff6d83c5f1b6d1b4215fd562b553d8fad23a4b43ae213a34ac43b94496740c8", func := "loop.example/g00928/laws.FnExactCornersOf", spec := "fnExactCornersOf", unfollowed := true, recurses := true, apart := false, narrowed := true }
def FnExactCornersOfUptoSaid : Prop := fnExactCornersOfUptoRow.holds Try.pinned (OpenSpec.upto fnExactCornersOfSpec)

/-- 'laws.FnExactAnglesOf', WHERE WHAT IT READS IS OF BULK AT MOST 1048576: true; the input reads as it did. -/
def fnExactAnglesOfUptoRow : OpenClaim := { program := "ytpafloeghbfdgaa", sum := "fff6d83c5f1b6d1b4215fd562b553d8fad23a4b43ae213a34ac43b94496740c8", func := "loop.example/g00928/laws.FnExactAnglesOf", spec := "fnExactAnglesOf", unfollowed := true, recurses := true, apart := false, narrowed := true }
def FnExactAnglesOfUptoSaid : Prop := fnExactAnglesOfUptoRow.holds Try.pinned (OpenSpec.upto fnExactAnglesOfSpec)

/-- 'laws.FnExactStratumOf', WHERE WHAT IT READS IS OF BULK AT MOST 1048576: true; the input reads as it did. -/
def fnExactStratumOfUptoRow : OpenClaim := { program := "ytpafloeghbfdgaa", sum := "fff6d83c5f1b6d1b4215fd562b553d8fad23a4b43ae213a34ac43b94496740c8", func := "loop.example/g00928/laws.FnExactStratumOf", spec := "fnExactStratumOf", unfollowed := true, recurses := true, apart := false, narrowed := true }
def FnExactStratumOfUptoSaid : Prop := fnExactStratumOfUptoRow.holds Try.pinned (OpenSpec.upto fnExactStratumOfSpec)

/-- 'laws.FnExactGenusOf', WHERE WHAT IT READS IS OF BULK AT MOST 1048576: true; the input reads as it did. -/
def fnExactGenusOfUptoRow : OpenClaim := { program := "ytpafloeghbfdgaa", sum := "fff6d83c5f1b6d1b4215fd562b553d8fad23a4b43ae213a34ac43b94496740c8", func := "loop.example/g00928/laws.FnExactGenusOf", spec := "fnExactGenusOf", unfollowed := true, recurses := true, apart := false, narrowed := true }
def FnExactGenusOfUptoSaid : Prop := fnExactGenusOfUptoRow.holds Try.pinned (OpenSpec.upto fnExactGenusOfSpec)

/-- 'laws.FnExactIsRegularCorner', WHERE WHAT IT READS IS OF BULK AT MOST 1048576: true; the input reads as it did. -/
def fnExactIsRegularCornerUptoRow : OpenClaim := { program := "ytpafloeghbfdgaa", sum := "fff6d83c5f1b6d1b4215fd562b553d8fad23a4b43ae213a34ac43b94496740c8", func := "loop.example/g00928/laws.FnExactIsRegularCorner", spec := "fnExactIsRegularCorner", unfollowed := true, recurses := true, apart := false, narrowed := true }
def FnExactIsRegularCornerUptoSaid : Prop := fnExactIsRegularCornerUptoRow.holds Try.pinned (OpenSpec.upto fnExactIsRegularCornerSpec)

/-- 'laws.FnCanon', WHERE WHAT IT READS IS OF BULK AT MOST 1048576: true; the input reads as it did. -/
def fnCanonUptoRow : OpenClaim := { program := "ytpafloeghbfdgaa", sum := "fff6d83c5f1b6d1b4215fd562b553d8fad23a4b43ae213a34ac43b94496740c8", func := "loop.example/g00928/laws.FnCanon", spec := "fnCanon", apart := false, narrowed := true }
def FnCanonUptoSaid : Prop := fnCanonUptoRow.holds Try.pinned (OpenSpec.upto fnCanonSpec)

/-- 'laws.FnExactTorusOf', WHERE WHAT IT READS IS OF BULK AT MOST 1048576: true; the input reads as it did. -/
def fnExactTorusOfUptoRow : OpenClaim := { program := "ytpafloeghbfdgaa", sum := "fff6d83c5f1b6d1b4215fd562b553d8fad23a4b43ae213a34ac43b94496740c8", func := "loop.example/g00928/laws.FnExactTorusOf", spec := "fnExactTorusOf", apart := false, narrowed := true }
def FnExactTorusOfUptoSaid : Prop := fnExactTorusOfUptoRow.holds Try.pinned (OpenSpec.upto fnExactTorusOfSpec)

/-- 'laws.FnExactEllOf', WHERE WHAT IT READS IS OF BULK AT MOST 1048576: true; the input reads as it did. -/
def fnExactEllOfUptoRow : OpenClaim := { program := "ytpafloeghbfdgaa", sum := "fff6d83c5f1b6d1b4215fd562b553d8fad23a4b43ae213a34ac43b94496740c8", func := "loop.example/g00928/laws.FnExactEllOf", spec := "fnExactEllOf", apart := false, narrowed := true }
def FnExactEllOfUptoSaid : Prop := fnExactEllOfUptoRow.holds Try.pinned (OpenSpec.upto fnExactEllOfSpec)

end Rows
end Go.Proofs.Ytpafloeghbfdgaa

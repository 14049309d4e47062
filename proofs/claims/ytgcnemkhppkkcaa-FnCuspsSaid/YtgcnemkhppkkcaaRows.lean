/-
  No cell of these rows narrows 'for every input' (looked for: loops, veiled, ifaces, maps, wideKeys, modest, calm, conditions, laid).
  DERIVED. THE GIVEN ROWS OF THIS SEAT. 5 by the template 'for every input the law returns true; each argument reads behind the call as it read before'; 0 by the template 'total and deterministic' (their statements: YtgcnemkhppkkcaaTotals.lean).
  GIVEN WITH THE SEED: the statements are not yours to turn. If you find one false, say at which input.
  Laid BY PROGRAM, IN A SANDBOX (cutbox-rows.mjs): the forced cells as the released guide's own fill.sh prints them over the translation 7a9d9b75d27ff336… (all of the seat's roots in one cut). By AI agents, Wed Nov 11 2026. No macro, syntax, notation, axiom, sorry.
-/
import Derived.Test.YtgcnemkhppkkcaaChecked
import GoSem.Claim
import GoSem.ClaimJoined
import GoSem.ClaimMapViews
import Derived.JoinedTies
import Derived.KernelRfl
namespace Go.Proofs.Ytgcnemkhppkkcaa
/- THE CELL 'sum', in the pinned program and in every row, IS THE sha256 OF THE DUMP (.gsa) THAT YtgcnemkhppkkcaaProg.lean LOADS. Nothing in Lean hashes anything: it is a label: what it is worth is what the hold of that sum in a sandbox is worth. -/
noncomputable def Try.pinned : Pinned := { name := "ytgcnemkhppkkcaa", sum := "7a9d9b75d27ff3363d59430635cf266747e64dcf8a71f7cf122a73d7ebc534a2", checked := Try.checked }
namespace Rows
def none {H : Type} : Left H := { results := [], args := [] }

/-- 'laws.FnOrbits': WHATEVER THE INPUT: true; the input reads as it did. -/
def fnOrbitsSpec : ChangeSpec := { name := "fnOrbits", fn := fun _ => fun
  | [d] => { results := [.lit (.bool true)], args := [d] }
  | _ => none }
def fnOrbitsRow : OpenClaim := { program := "ytgcnemkhppkkcaa", sum := "7a9d9b75d27ff3363d59430635cf266747e64dcf8a71f7cf122a73d7ebc534a2", func := "loop.example/g00928/laws.FnOrbits", spec := "fnOrbits", inPlace := ["internal/bytealg.IndexByteString"], unfollowed := true, recurses := true, plainKeys := false, leaving := true, apart := false }
def FnOrbitsSaid : Prop := fnOrbitsRow.holds Try.pinned (OpenSpec.ofChange fnOrbitsSpec)

/-- ITS FALSE NEIGHBOUR: 'it returns false'. Refute it at one input. -/
def fnOrbitsWrong : ChangeSpec := { name := "fnOrbits", fn := fun _ => fun
  | [d] => { results := [.lit (.bool false)], args := [d] }
  | _ => none }
def FnOrbitsWrongFalsely : Prop := fnOrbitsRow.holds Try.pinned (OpenSpec.ofChange fnOrbitsWrong)

/-- 'laws.FnExactOrbitWord': WHATEVER THE INPUT: true; the input reads as it did. -/
def fnExactOrbitWordSpec : ChangeSpec := { name := "fnExactOrbitWord", fn := fun _ => fun
  | [d1, d2] => { results := [.lit (.bool true)], args := [d1, d2] }
  | _ => none }
def fnExactOrbitWordRow : OpenClaim := { program := "ytgcnemkhppkkcaa", sum := "7a9d9b75d27ff3363d59430635cf266747e64dcf8a71f7cf122a73d7ebc534a2", func := "loop.example/g00928/laws.FnExactOrbitWord", spec := "fnExactOrbitWord", unfollowed := true, recurses := true, plainKeys := false, leaving := true, apart := false }
def FnExactOrbitWordSaid : Prop := fnExactOrbitWordRow.holds Try.pinned (OpenSpec.ofChange fnExactOrbitWordSpec)

/-- ITS FALSE NEIGHBOUR: 'it returns false'. Refute it at one input. -/
def fnExactOrbitWordWrong : ChangeSpec := { name := "fnExactOrbitWord", fn := fun _ => fun
  | [d1, d2] => { results := [.lit (.bool false)], args := [d1, d2] }
  | _ => none }
def FnExactOrbitWordWrongFalsely : Prop := fnExactOrbitWordRow.holds Try.pinned (OpenSpec.ofChange fnExactOrbitWordWrong)

/-- 'laws.FnExactCuspsOf': WHATEVER THE INPUT: true; the input reads as it did. -/
def fnExactCuspsOfSpec : ChangeSpec := { name := "fnExactCuspsOf", fn := fun _ => fun
  | [d] => { results := [.lit (.bool true)], args := [d] }
  | _ => none }
def fnExactCuspsOfRow : OpenClaim := { program := "ytgcnemkhppkkcaa", sum := "7a9d9b75d27ff3363d59430635cf266747e64dcf8a71f7cf122a73d7ebc534a2", func := "loop.example/g00928/laws.FnExactCuspsOf", spec := "fnExactCuspsOf", unfollowed := true, recurses := true, plainKeys := false, leaving := true, apart := false }
def FnExactCuspsOfSaid : Prop := fnExactCuspsOfRow.holds Try.pinned (OpenSpec.ofChange fnExactCuspsOfSpec)

/-- ITS FALSE NEIGHBOUR: 'it returns false'. Refute it at one input. -/
def fnExactCuspsOfWrong : ChangeSpec := { name := "fnExactCuspsOf", fn := fun _ => fun
  | [d] => { results := [.lit (.bool false)], args := [d] }
  | _ => none }
def FnExactCuspsOfWrongFalsely : Prop := fnExactCuspsOfRow.holds Try.pinned (OpenSpec.ofChange fnExactCuspsOfWrong)

/-- 'laws.FnExactSameOrbit': WHATEVER THE INPUT: true; the input reads as it did. -/
def fnExactSameOrbitSpec : ChangeSpec := { name := "fnExactSameOrbit", fn := fun _ => fun
  | [d1, d2] => { results := [.lit (.bool true)], args := [d1, d2] }
  | _ => none }
def fnExactSameOrbitRow : OpenClaim := { program := "ytgcnemkhppkkcaa", sum := "7a9d9b75d27ff3363d59430635cf266747e64dcf8a71f7cf122a73d7ebc534a2", func := "loop.example/g00928/laws.FnExactSameOrbit", spec := "fnExactSameOrbit", unfollowed := true, recurses := true, plainKeys := false, leaving := true, apart := false }
def FnExactSameOrbitSaid : Prop := fnExactSameOrbitRow.holds Try.pinned (OpenSpec.ofChange fnExactSameOrbitSpec)

/-- ITS FALSE NEIGHBOUR: 'it returns false'. Refute it at one input. -/
def fnExactSameOrbitWrong : ChangeSpec := { name := "fnExactSameOrbit", fn := fun _ => fun
  | [d1, d2] => { results := [.lit (.bool false)], args := [d1, d2] }
  | _ => none }
def FnExactSameOrbitWrongFalsely : Prop := fnExactSameOrbitRow.holds Try.pinned (OpenSpec.ofChange fnExactSameOrbitWrong)

/-- 'laws.FnCusps': WHATEVER THE INPUT: true; the input reads as it did. -/
def fnCuspsSpec : ChangeSpec := { name := "fnCusps", fn := fun _ => fun
  | [d] => { results := [.lit (.bool true)], args := [d] }
  | _ => none }
def fnCuspsRow : OpenClaim := { program := "ytgcnemkhppkkcaa", sum := "7a9d9b75d27ff3363d59430635cf266747e64dcf8a71f7cf122a73d7ebc534a2", func := "loop.example/g00928/laws.FnCusps", spec := "fnCusps", unfollowed := true, recurses := true, plainKeys := false, leaving := true, apart := false }
def FnCuspsSaid : Prop := fnCuspsRow.holds Try.pinned (OpenSpec.ofChange fnCuspsSpec)

/-- ITS FALSE NEIGHBOUR: 'it returns false'. Refute it at one input. -/
def fnCuspsWrong : ChangeSpec := { name := "fnCusps", fn := fun _ => fun
  | [d] => { results := [.lit (.bool false)], args := [d] }
  | _ => none }
def FnCuspsWrongFalsely : Prop := fnCuspsRow.holds Try.pinned (OpenSpec.ofChange fnCuspsWrong)

/- THE SECOND FORM. 'bulk': how many values and letters a reading holds, each counted each time it is reached (what is shared counts as often as it is met; a slice's spare places count too). A statement '..UptoSaid' is the law's where the arguments, and the package variables that the reading takes, are together of bulk at most 1048576: NARROWER than '..Said'. Prove '..Said' where nothing that the law and all that it calls make is longer than what came in: it says more and counts as full. Else prove '..UptoSaid'. A law counts once. -/
mutual
def uptoBulk {H : Type} : DataW H → Nat
  | .lit (.string bytes) => bytes.length + 1
  | .lit _ => 1
  | .nil => 1
  | .ptr d => uptoBulk d + 1
  | .slice elems spare => uptoBulkAll elems + uptoBulkAll spare + 1
  | .agg parts => uptoBulkAll parts + 1
  | .iface _ d => uptoBulk d + 1
  | .map entries => uptoBulkEntries entries + 1
  | .held _ => 1
def uptoBulkAll {H : Type} : List (DataW H) → Nat
  | [] => 0
  | d :: r => uptoBulk d + uptoBulkAll r
def uptoBulkEntries {H : Type} : List (Lit × DataW H) → Nat
  | [] => 0
  | x :: r => uptoBulkEntry x + uptoBulkEntries r
def uptoBulkEntry {H : Type} : Lit × DataW H → Nat
  | (.string bytes, d) => bytes.length + uptoBulk d + 1
  | (_, d) => uptoBulk d + 1
 end
def uptoSmall : (H : Type) → List (DataW H) → Bool := fun _ ds => decide (uptoBulkAll ds ≤ 1048576)
def OpenSpec.upto (s : _root_.Go.ChangeSpec) : _root_.Go.OpenSpec := { _root_.Go.OpenSpec.ofChange s with cond := some uptoSmall }

/-- 'laws.FnOrbits', WHERE WHAT IT READS IS OF BULK AT MOST 1048576: true; the input reads as it did. -/
def fnOrbitsUptoRow : OpenClaim := { program := "ytgcnemkhppkkcaa", sum := "7a9d9b75d27ff3363d59430635cf266747e64dcf8a71f7cf122a73d7ebc534a2", func := "loop.example/g00928/laws.FnOrbits", spec := "fnOrbits", inPlace := ["internal/bytealg.IndexByteString"], unfollowed := true, recurses := true, plainKeys := false, leaving := true, apart := false, narrowed := true }
def FnOrbitsUptoSaid : Prop := fnOrbitsUptoRow.holds Try.pinned (OpenSpec.upto fnOrbitsSpec)

/-- 'laws.FnExactOrbitWord', WHERE WHAT IT READS IS OF BULK AT MOST 1048576: true; the input reads as it did. -/
def fnExactOrbitWordUptoRow : OpenClaim := { program := "ytgcnemkhppkkcaa", sum := "7a9d9b75d27ff3363d59430635cf266747e64dcf8a71f7cf122a73d7ebc534a2", func := "loop.example/g00928/laws.FnExactOrbitWord", spec := "fnExactOrbitWord", unfollowed := true, recurses := true, plainKeys := false, leaving := true, apart := false, narrowed := true }
def FnExactOrbitWordUptoSaid : Prop := fnExactOrbitWordUptoRow.holds Try.pinned (OpenSpec.upto fnExactOrbitWordSpec)

/-- 'laws.FnExactCuspsOf', WHERE WHAT IT READS IS OF BULK AT MOST 1048576: true; the input reads as it did. -/
def fnExactCuspsOfUptoRow : OpenClaim := { program := "ytgcnemkhppkkcaa", sum := "7a9d9b75d27ff3363d59430635cf266747e64dcf8a71f7cf122a73d7ebc534a2", func := "loop.example/g00928/laws.FnExactCuspsOf", spec := "fnExactCuspsOf", unfollowed := true, recurses := true, plainKeys := false, leaving := true, apart := false, narrowed := true }
def FnExactCuspsOfUptoSaid : Prop := fnExactCuspsOfUptoRow.holds Try.pinned (OpenSpec.upto fnExactCuspsOfSpec)

/-- 'laws.FnExactSameOrbit', WHERE WHAT IT READS IS OF BULK AT MOST 1048576: true; the input reads as it did. -/
def fnExactSameOrbitUptoRow : OpenClaim := { program := "ytgcnemkhppkkcaa", sum := "7a9d9b75d27ff3363d59430635cf266747e64dcf8a71f7cf122a73d7ebc534a2", func := "loop.example/g00928/laws.FnExactSameOrbit", spec := "fnExactSameOrbit", unfollowed := true, recurses := true, plainKeys := false, leaving := true, apart := false, narrowed := true }
def FnExactSameOrbitUptoSaid : Prop := fnExactSameOrbitUptoRow.holds Try.pinned (OpenSpec.upto fnExactSameOrbitSpec)

/-- 'laws.FnCusps', WHERE WHAT IT READS IS OF BULK AT MOST 1048576: true; the input reads as it did. -/
def fnCuspsUptoRow : OpenClaim := { program := "ytgcnemkhppkkcaa", sum := "7a9d9b75d27ff3363d59430635cf266747e64dcf8a71f7cf122a73d7ebc534a2", func := "loop.example/g00928/laws.FnCusps", spec := "fnCusps", unfollowed := true, recurses := true, plainKeys := false, leaving := true, apart := false, narrowed := true }
def FnCuspsUptoSaid : Prop := fnCuspsUptoRow.holds Try.pinned (OpenSpec.upto fnCuspsSpec)

end Rows
end Go.Proofs.Ytgcnemkhppkkcaa

/-
  DERIVED. GIVEN WITH THE SEED: THE CARDS: each row of YtpbbfbpggedgpaaDoorRows.lean that lists a variable, with what it lists TIED to the program's text (the seventh form; the later family's looks); each row that meets fmt, with fmt's text TOLD by the authors' own Lean function (tested against real Go, not proved from fmt's source: count such statements apart). THE CARD IS WHAT COUNTS. Prove the row's statement (the work); the ties are given (YtpbbfbpggedgpaaDoorTie.lean); close each card by the builder's one call (the guide's Derived/Test/ToyasCard.lean, 'card_holds'). Laid BY PROGRAM, IN A SANDBOX (cutbox-door.mjs). By AI agents, Wed Nov 11 2026. No macro, syntax, notation, axiom, sorry.
-/
import Derived.Test.YtpbbfbpggedgpaaDoorRows
import GoSem.ClaimSeven
namespace Go.Proofs.YtpbbfbpggedgpaaDoor
namespace Rows

/-- THE TIED CARD OF 'laws.FnDirections'. -/
def fnDirectionsCard : Claim7 := { stood := { row := fnDirectionsRow, standIns := [], harness := (true, "e9978041c70f26a913681c177272b2600758f0e0e392dd3dc6f7aaa4cb1bb1b0"), looks := false }, kinds := [], alts := [], laidByText := true, laidKinds := [.wider], laidTests := true, laidLooks := .later }
def FnDirectionsCardSaid : Prop := Claim7.holds Tryd.pinned (.plain (OpenSpec.ofChange fnDirectionsSpec)) fnDirectionsCard

/-- THE SECOND FORM's CARD OF 'laws.FnDirections'. -/
def fnDirectionsUptoCard : Claim7 := { stood := { row := fnDirectionsUptoRow, standIns := [], harness := (true, "e9978041c70f26a913681c177272b2600758f0e0e392dd3dc6f7aaa4cb1bb1b0"), looks := false }, kinds := [], alts := [], laidByText := true, laidKinds := [.wider], laidTests := true, laidLooks := .later }
def FnDirectionsUptoCardSaid : Prop := Claim7.holds Tryd.pinned (.plain (OpenSpec.upto fnDirectionsSpec)) fnDirectionsUptoCard
end Rows
end Go.Proofs.YtpbbfbpggedgpaaDoor

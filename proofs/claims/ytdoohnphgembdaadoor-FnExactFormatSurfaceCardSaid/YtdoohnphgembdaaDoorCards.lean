/-
  DERIVED. GIVEN WITH THE SEED: THE CARDS: each row of YtdoohnphgembdaaDoorRows.lean that lists a variable, with what it lists TIED to the program's text (the seventh form; the later family's looks); each row that meets fmt, with fmt's text TOLD by the authors' own Lean function (tested against real Go, not proved from fmt's source: count such statements apart). THE CARD IS WHAT COUNTS. Prove the row's statement (the work); the ties are given (YtdoohnphgembdaaDoorTie.lean); close each card by the builder's one call (the guide's Derived/Test/ToyasCard.lean, 'card_holds'). Laid BY PROGRAM, IN A SANDBOX (cutbox-door.mjs). By AI agents, Wed Nov 11 2026. No macro, syntax, notation, axiom, sorry.
-/
import Derived.Test.YtdoohnphgembdaaDoorRows
import GoSem.ClaimSeven
namespace Go.Proofs.YtdoohnphgembdaaDoor
namespace Rows

/-- THE TIED CARD OF 'laws.FnExactMatrixOf'. -/
def fnExactMatrixOfCard : Claim7 := { stood := { row := fnExactMatrixOfRow, standIns := [], harness := (true, "d8aada1a909aed1f714f37b6f676e1651476ce2e1b0fd8f74b29d7142c3df4e9"), looks := false }, kinds := [], alts := [], laidByText := true, laidKinds := [.wider], laidTests := true, laidLooks := .later }
def FnExactMatrixOfCardSaid : Prop := Claim7.holds Tryd.pinned (.plain (OpenSpec.ofChange fnExactMatrixOfSpec)) fnExactMatrixOfCard

/-- THE TIED CARD OF 'laws.FnExactFormatSurface'. -/
def fnExactFormatSurfaceCard : Claim7 := { stood := { row := fnExactFormatSurfaceRow, standIns := [], harness := (true, "d8aada1a909aed1f714f37b6f676e1651476ce2e1b0fd8f74b29d7142c3df4e9"), looks := false }, kinds := [], alts := [], laidByText := true, laidKinds := [.data, .data, .data], laidTests := true, laidLooks := .later }
def FnExactFormatSurfaceCardSaid : Prop := Claim7.holds Tryd.pinned (.plain (OpenSpec.ofChange fnExactFormatSurfaceSpec)) fnExactFormatSurfaceCard

/-- THE SECOND FORM's CARD OF 'laws.FnExactMatrixOf'. -/
def fnExactMatrixOfUptoCard : Claim7 := { stood := { row := fnExactMatrixOfUptoRow, standIns := [], harness := (true, "d8aada1a909aed1f714f37b6f676e1651476ce2e1b0fd8f74b29d7142c3df4e9"), looks := false }, kinds := [], alts := [], laidByText := true, laidKinds := [.wider], laidTests := true, laidLooks := .later }
def FnExactMatrixOfUptoCardSaid : Prop := Claim7.holds Tryd.pinned (.plain (OpenSpec.upto fnExactMatrixOfSpec)) fnExactMatrixOfUptoCard

/-- THE SECOND FORM's CARD OF 'laws.FnExactFormatSurface'. -/
def fnExactFormatSurfaceUptoCard : Claim7 := { stood := { row := fnExactFormatSurfaceUptoRow, standIns := [], harness := (true, "d8aada1a909aed1f714f37b6f676e1651476ce2e1b0fd8f74b29d7142c3df4e9"), looks := false }, kinds := [], alts := [], laidByText := true, laidKinds := [.data, .data, .data], laidTests := true, laidLooks := .later }
def FnExactFormatSurfaceUptoCardSaid : Prop := Claim7.holds Tryd.pinned (.plain (OpenSpec.upto fnExactFormatSurfaceSpec)) fnExactFormatSurfaceUptoCard
end Rows
end Go.Proofs.YtdoohnphgembdaaDoor

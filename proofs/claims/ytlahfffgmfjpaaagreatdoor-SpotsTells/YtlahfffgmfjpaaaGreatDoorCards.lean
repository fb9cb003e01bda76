/-
  DERIVED. GIVEN WITH THE SEED: THE CARDS: each row of YtlahfffgmfjpaaaGreatDoorRows.lean that lists a variable, with what it lists TIED to the program's text (the seventh form; the later family's looks); each row that meets fmt, with fmt's text TOLD by the authors' own Lean function (tested against real Go, not proved from fmt's source: count such statements apart). THE CARD IS WHAT COUNTS. Prove the row's statement (the work); the ties are given (YtlahfffgmfjpaaaGreatDoorTie.lean); close each card by the builder's one call (the guide's Derived/Test/ToyasCard.lean, 'card_holds'). Laid BY PROGRAM, IN A SANDBOX (cutbox-door.mjs). By AI agents, Wed Nov 11 2026. No macro, syntax, notation, axiom, sorry.
-/
import Derived.Test.YtlahfffgmfjpaaaGreatDoorRows
import GoSem.ClaimSeven
namespace Go.Proofs.YtlahfffgmfjpaaaGreatDoor
namespace Rows

/-- THE TIED CARD OF 'tidehalllaw12.SpotsTells'. -/
def spotsTellsCard : Claim7 := { stood := { row := spotsTellsRow, standIns := [], harness := (true, "b7f8c70d5353d882bfb6d2c66eac34ffb4865fbd2ff672b063a9a7cf0740629d"), looks := false }, kinds := [], alts := [], laidByText := true, laidKinds := [.data], laidTests := true, laidLooks := .later }
def SpotsTellsCardSaid : Prop := Claim7.holds Tryz.pinned (.plain (OpenSpec.ofChange spotsTellsSpec)) spotsTellsCard

/-- THE TIED CARD OF 'tidehalllaw12.SpotsTurns'. -/
def spotsTurnsCard : Claim7 := { stood := { row := spotsTurnsRow, standIns := [], harness := (true, "b7f8c70d5353d882bfb6d2c66eac34ffb4865fbd2ff672b063a9a7cf0740629d"), looks := false }, kinds := [], alts := [], laidByText := true, laidKinds := [.data], laidTests := true, laidLooks := .later }
def SpotsTurnsCardSaid : Prop := Claim7.holds Tryz.pinned (.plain (OpenSpec.ofChange spotsTurnsSpec)) spotsTurnsCard

/-- THE SECOND FORM's CARD OF 'tidehalllaw12.SpotsTells'. -/
def spotsTellsUptoCard : Claim7 := { stood := { row := spotsTellsUptoRow, standIns := [], harness := (true, "b7f8c70d5353d882bfb6d2c66eac34ffb4865fbd2ff672b063a9a7cf0740629d"), looks := false }, kinds := [], alts := [], laidByText := true, laidKinds := [.data], laidTests := true, laidLooks := .later }
def SpotsTellsUptoCardSaid : Prop := Claim7.holds Tryz.pinned (.plain (OpenSpec.upto spotsTellsSpec)) spotsTellsUptoCard

/-- THE SECOND FORM's CARD OF 'tidehalllaw12.SpotsTurns'. -/
def spotsTurnsUptoCard : Claim7 := { stood := { row := spotsTurnsUptoRow, standIns := [], harness := (true, "b7f8c70d5353d882bfb6d2c66eac34ffb4865fbd2ff672b063a9a7cf0740629d"), looks := false }, kinds := [], alts := [], laidByText := true, laidKinds := [.data], laidTests := true, laidLooks := .later }
def SpotsTurnsUptoCardSaid : Prop := Claim7.holds Tryz.pinned (.plain (OpenSpec.upto spotsTurnsSpec)) spotsTurnsUptoCard
end Rows
end Go.Proofs.YtlahfffgmfjpaaaGreatDoor

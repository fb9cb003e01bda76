/-
  DERIVED. GIVEN WITH THE SEED: THE CARDS: each row of YtbobfhoimhambaaGreatDoorRows.lean that lists a variable, with what it lists TIED to the program's text (the seventh form; the later family's looks); each row that meets fmt, with fmt's text TOLD by the authors' own Lean function (tested against real Go, not proved from fmt's source: count such statements apart). THE CARD IS WHAT COUNTS. Prove the row's statement (the work); the ties are given (YtbobfhoimhambaaGreatDoorTie.lean); close each card by the builder's one call (the guide's Derived/Test/ToyasCard.lean, 'card_holds'). Laid BY PROGRAM, IN A SANDBOX (cutbox-door.mjs). By AI agents, Wed Nov 11 2026. No macro, syntax, notation, axiom, sorry.
-/
import Derived.Test.YtbobfhoimhambaaGreatDoorRows
import GoSem.ClaimSeven
namespace Go.Proofs.YtbobfhoimhambaaGreatDoor
namespace Rows

/-- THE TIED CARD OF 'tidehalllaw06.PlaceTells'. -/
def placeTellsCard : Claim7 := { stood := { row := placeTellsRow, standIns := [], harness := (true, "466b61da543a00c48f4de18fb3c3e0db601d45af60a18e3239dd8af5f1911713"), looks := false }, kinds := [], alts := [], laidByText := true, laidKinds := [.data], laidTests := true, laidLooks := .later }
def PlaceTellsCardSaid : Prop := Claim7.holds Tryz.pinned (.plain (OpenSpec.ofChange placeTellsSpec)) placeTellsCard

/-- THE SECOND FORM's CARD OF 'tidehalllaw06.PlaceTells'. -/
def placeTellsUptoCard : Claim7 := { stood := { row := placeTellsUptoRow, standIns := [], harness := (true, "466b61da543a00c48f4de18fb3c3e0db601d45af60a18e3239dd8af5f1911713"), looks := false }, kinds := [], alts := [], laidByText := true, laidKinds := [.data], laidTests := true, laidLooks := .later }
def PlaceTellsUptoCardSaid : Prop := Claim7.holds Tryz.pinned (.plain (OpenSpec.upto placeTellsSpec)) placeTellsUptoCard
end Rows
end Go.Proofs.YtbobfhoimhambaaGreatDoor

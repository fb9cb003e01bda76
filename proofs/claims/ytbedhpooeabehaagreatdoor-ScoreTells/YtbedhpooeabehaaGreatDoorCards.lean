/-
  DERIVED. GIVEN WITH THE SEED: THE CARDS: each row of YtbedhpooeabehaaGreatDoorRows.lean that lists a variable, with what it lists TIED to the program's text (the seventh form; the later family's looks); each row that meets fmt, with fmt's text TOLD by the authors' own Lean function (tested against real Go, not proved from fmt's source: count such statements apart). THE CARD IS WHAT COUNTS. Prove the row's statement (the work); the ties are given (YtbedhpooeabehaaGreatDoorTie.lean); close each card by the builder's one call (the guide's Derived/Test/ToyasCard.lean, 'card_holds'). Laid BY PROGRAM, IN A SANDBOX (cutbox-door.mjs). By AI agents, Wed Nov 11 2026. No macro, syntax, notation, axiom, sorry.
-/
import Derived.Test.YtbedhpooeabehaaGreatDoorRows
import GoSem.ClaimSeven
namespace Go.Proofs.YtbedhpooeabehaaGreatDoor
namespace Rows

/-- THE TIED CARD OF 'tidehalllaw14.ScoreTells'. -/
def scoreTellsCard : Claim7 := { stood := { row := scoreTellsRow, standIns := [], harness := (true, "d3cc20daba1a5e2a565476dca3ed1a9aaaf66c364bf0076d441f647394693ff1"), looks := false }, kinds := [], alts := [], laidByText := true, laidKinds := [.data], laidTests := true, laidLooks := .later }
def ScoreTellsCardSaid : Prop := Claim7.holds Tryz.pinned (.plain (OpenSpec.ofChange scoreTellsSpec)) scoreTellsCard

/-- THE SECOND FORM's CARD OF 'tidehalllaw14.ScoreTells'. -/
def scoreTellsUptoCard : Claim7 := { stood := { row := scoreTellsUptoRow, standIns := [], harness := (true, "d3cc20daba1a5e2a565476dca3ed1a9aaaf66c364bf0076d441f647394693ff1"), looks := false }, kinds := [], alts := [], laidByText := true, laidKinds := [.data], laidTests := true, laidLooks := .later }
def ScoreTellsUptoCardSaid : Prop := Claim7.holds Tryz.pinned (.plain (OpenSpec.upto scoreTellsSpec)) scoreTellsUptoCard
end Rows
end Go.Proofs.YtbedhpooeabehaaGreatDoor

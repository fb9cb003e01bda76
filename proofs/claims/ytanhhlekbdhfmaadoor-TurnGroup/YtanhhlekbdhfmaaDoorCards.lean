/-
  DERIVED. GIVEN WITH THE SEED: THE CARDS: each row of YtanhhlekbdhfmaaDoorRows.lean that lists a variable, with what it lists TIED to the program's text (the seventh form; the later family's looks); each row that meets fmt, with fmt's text TOLD by the authors' own Lean function (tested against real Go, not proved from fmt's source: count such statements apart). THE CARD IS WHAT COUNTS. Prove the row's statement (the work); the ties are given (YtanhhlekbdhfmaaDoorTie.lean); close each card by the builder's one call (the guide's Derived/Test/ToyasCard.lean, 'card_holds'). Laid BY PROGRAM, IN A SANDBOX (cutbox-door.mjs). By AI agents, Wed Nov 11 2026. No macro, syntax, notation, axiom, sorry.
-/
import Derived.Test.YtanhhlekbdhfmaaDoorRows
import GoSem.ClaimSeven
namespace Go.Proofs.YtanhhlekbdhfmaaDoor
namespace Rows

/-- THE TIED CARD OF 'tidehalllaw04.TurnNames'. -/
def turnNamesCard : Claim7 := { stood := { row := turnNamesRow, standIns := [], harness := (true, "44f1493e1923ab61d073fa5cb2a3306c1fef83146b88138d7306d4ef13e62e66"), looks := false }, kinds := [], alts := [], laidByText := true, laidKinds := [.data], laidTests := true, laidLooks := .later }
def TurnNamesCardSaid : Prop := Claim7.holds Tryd.pinned (.plain (OpenSpec.ofChange turnNamesSpec)) turnNamesCard

/-- THE TIED CARD OF 'tidehalllaw04.TurnTells'. -/
def turnTellsCard : Claim7 := { stood := { row := turnTellsRow, standIns := [], harness := (true, "44f1493e1923ab61d073fa5cb2a3306c1fef83146b88138d7306d4ef13e62e66"), looks := false }, kinds := [], alts := [], laidByText := true, laidKinds := [.data], laidTests := true, laidLooks := .later }
def TurnTellsCardSaid : Prop := Claim7.holds Tryd.pinned (.plain (OpenSpec.ofChange turnTellsSpec)) turnTellsCard

/-- THE TIED CARD OF 'tidehalllaw04.TurnGroup'. -/
def turnGroupCard : Claim7 := { stood := { row := turnGroupRow, standIns := [], harness := (true, "44f1493e1923ab61d073fa5cb2a3306c1fef83146b88138d7306d4ef13e62e66"), looks := false }, kinds := [], alts := [], laidByText := true, laidKinds := [.data], laidTests := true, laidLooks := .later }
def TurnGroupCardSaid : Prop := Claim7.holds Tryd.pinned (.plain (OpenSpec.ofChange turnGroupSpec)) turnGroupCard

/-- THE TIED CARD OF 'tidehalllaw04.TurnFits'. -/
def turnFitsCard : Claim7 := { stood := { row := turnFitsRow, standIns := [], harness := (true, "44f1493e1923ab61d073fa5cb2a3306c1fef83146b88138d7306d4ef13e62e66"), looks := false }, kinds := [], alts := [], laidByText := true, laidKinds := [.data], laidTests := true, laidLooks := .later }
def TurnFitsCardSaid : Prop := Claim7.holds Tryd.pinned (.plain (OpenSpec.ofChange turnFitsSpec)) turnFitsCard

/-- THE SECOND FORM's CARD OF 'tidehalllaw04.TurnNames'. -/
def turnNamesUptoCard : Claim7 := { stood := { row := turnNamesUptoRow, standIns := [], harness := (true, "44f1493e1923ab61d073fa5cb2a3306c1fef83146b88138d7306d4ef13e62e66"), looks := false }, kinds := [], alts := [], laidByText := true, laidKinds := [.data], laidTests := true, laidLooks := .later }
def TurnNamesUptoCardSaid : Prop := Claim7.holds Tryd.pinned (.plain (OpenSpec.upto turnNamesSpec)) turnNamesUptoCard

/-- THE SECOND FORM's CARD OF 'tidehalllaw04.TurnTells'. -/
def turnTellsUptoCard : Claim7 := { stood := { row := turnTellsUptoRow, standIns := [], harness := (true, "44f1493e1923ab61d073fa5cb2a3306c1fef83146b88138d7306d4ef13e62e66"), looks := false }, kinds := [], alts := [], laidByText := true, laidKinds := [.data], laidTests := true, laidLooks := .later }
def TurnTellsUptoCardSaid : Prop := Claim7.holds Tryd.pinned (.plain (OpenSpec.upto turnTellsSpec)) turnTellsUptoCard

/-- THE SECOND FORM's CARD OF 'tidehalllaw04.TurnGroup'. -/
def turnGroupUptoCard : Claim7 := { stood := { row := turnGroupUptoRow, standIns := [], harness := (true, "44f1493e1923ab61d073fa5cb2a3306c1fef83146b88138d7306d4ef13e62e66"), looks := false }, kinds := [], alts := [], laidByText := true, laidKinds := [.data], laidTests := true, laidLooks := .later }
def TurnGroupUptoCardSaid : Prop := Claim7.holds Tryd.pinned (.plain (OpenSpec.upto turnGroupSpec)) turnGroupUptoCard

/-- THE SECOND FORM's CARD OF 'tidehalllaw04.TurnFits'. -/
def turnFitsUptoCard : Claim7 := { stood := { row := turnFitsUptoRow, standIns := [], harness := (true, "44f1493e1923ab61d073fa5cb2a3306c1fef83146b88138d7306d4ef13e62e66"), looks := false }, kinds := [], alts := [], laidByText := true, laidKinds := [.data], laidTests := true, laidLooks := .later }
def TurnFitsUptoCardSaid : Prop := Claim7.holds Tryd.pinned (.plain (OpenSpec.upto turnFitsSpec)) turnFitsUptoCard
end Rows
end Go.Proofs.YtanhhlekbdhfmaaDoor

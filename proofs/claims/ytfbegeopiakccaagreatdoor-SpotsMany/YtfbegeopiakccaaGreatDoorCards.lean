/-
  DERIVED. GIVEN WITH THE SEED: THE CARDS: each row of YtfbegeopiakccaaGreatDoorRows.lean that lists a variable, with what it lists TIED to the program's text (the seventh form; the later family's looks); each row that meets fmt, with fmt's text TOLD by the authors' own Lean function (tested against real Go, not proved from fmt's source: count such statements apart). THE CARD IS WHAT COUNTS. Prove the row's statement (the work); the ties are given (YtfbegeopiakccaaGreatDoorTie.lean); close each card by the builder's one call (the guide's Derived/Test/ToyasCard.lean, 'card_holds'). Laid BY PROGRAM, IN A SANDBOX (cutbox-door.mjs). By AI agents, Wed Nov 11 2026. No macro, syntax, notation, axiom, sorry.
-/
import Derived.Test.YtfbegeopiakccaaGreatDoorRows
import GoSem.ClaimSeven
namespace Go.Proofs.YtfbegeopiakccaaGreatDoor
namespace Rows

/-- THE TIED CARD OF 'tidehalllaw12.SpotsNames'. -/
def spotsNamesCard : Claim7 := { stood := { row := spotsNamesRow, standIns := [], harness := (true, "5af0a0985afdf2a713c94a4bb0b9ac27080857231353ed61fe75394a414c19d3"), looks := false }, kinds := [], alts := [], laidByText := true, laidKinds := [.data], laidTests := true, laidLooks := .later }
def SpotsNamesCardSaid : Prop := Claim7.holds Tryz.pinned (.plain (OpenSpec.ofChange spotsNamesSpec)) spotsNamesCard

/-- THE TIED CARD OF 'tidehalllaw12.SpotsTells'. -/
def spotsTellsCard : Claim7 := { stood := { row := spotsTellsRow, standIns := [], harness := (true, "5af0a0985afdf2a713c94a4bb0b9ac27080857231353ed61fe75394a414c19d3"), looks := false }, kinds := [], alts := [], laidByText := true, laidKinds := [.data], laidTests := true, laidLooks := .later }
def SpotsTellsCardSaid : Prop := Claim7.holds Tryz.pinned (.plain (OpenSpec.ofChange spotsTellsSpec)) spotsTellsCard

/-- THE TIED CARD OF 'tidehalllaw12.SpotsHas'. -/
def spotsHasCard : Claim7 := { stood := { row := spotsHasRow, standIns := [], harness := (true, "5af0a0985afdf2a713c94a4bb0b9ac27080857231353ed61fe75394a414c19d3"), looks := false }, kinds := [], alts := [], laidByText := true, laidKinds := [.data], laidTests := true, laidLooks := .later }
def SpotsHasCardSaid : Prop := Claim7.holds Tryz.pinned (.plain (OpenSpec.ofChange spotsHasSpec)) spotsHasCard

/-- THE TIED CARD OF 'tidehalllaw12.SpotsMany'. -/
def spotsManyCard : Claim7 := { stood := { row := spotsManyRow, standIns := [], harness := (true, "5af0a0985afdf2a713c94a4bb0b9ac27080857231353ed61fe75394a414c19d3"), looks := false }, kinds := [], alts := [], laidByText := true, laidKinds := [.data], laidTests := true, laidLooks := .later }
def SpotsManyCardSaid : Prop := Claim7.holds Tryz.pinned (.plain (OpenSpec.ofChange spotsManySpec)) spotsManyCard

/-- THE TIED CARD OF 'tidehalllaw12.SpotsTurns'. -/
def spotsTurnsCard : Claim7 := { stood := { row := spotsTurnsRow, standIns := [], harness := (true, "5af0a0985afdf2a713c94a4bb0b9ac27080857231353ed61fe75394a414c19d3"), looks := false }, kinds := [], alts := [], laidByText := true, laidKinds := [.data], laidTests := true, laidLooks := .later }
def SpotsTurnsCardSaid : Prop := Claim7.holds Tryz.pinned (.plain (OpenSpec.ofChange spotsTurnsSpec)) spotsTurnsCard

/-- THE SECOND FORM's CARD OF 'tidehalllaw12.SpotsNames'. -/
def spotsNamesUptoCard : Claim7 := { stood := { row := spotsNamesUptoRow, standIns := [], harness := (true, "5af0a0985afdf2a713c94a4bb0b9ac27080857231353ed61fe75394a414c19d3"), looks := false }, kinds := [], alts := [], laidByText := true, laidKinds := [.data], laidTests := true, laidLooks := .later }
def SpotsNamesUptoCardSaid : Prop := Claim7.holds Tryz.pinned (.plain (OpenSpec.upto spotsNamesSpec)) spotsNamesUptoCard

/-- THE SECOND FORM's CARD OF 'tidehalllaw12.SpotsTells'. -/
def spotsTellsUptoCard : Claim7 := { stood := { row := spotsTellsUptoRow, standIns := [], harness := (true, "5af0a0985afdf2a713c94a4bb0b9ac27080857231353ed61fe75394a414c19d3"), looks := false }, kinds := [], alts := [], laidByText := true, laidKinds := [.data], laidTests := true, laidLooks := .later }
def SpotsTellsUptoCardSaid : Prop := Claim7.holds Tryz.pinned (.plain (OpenSpec.upto spotsTellsSpec)) spotsTellsUptoCard

/-- THE SECOND FORM's CARD OF 'tidehalllaw12.SpotsHas'. -/
def spotsHasUptoCard : Claim7 := { stood := { row := spotsHasUptoRow, standIns := [], harness := (true, "5af0a0985afdf2a713c94a4bb0b9ac27080857231353ed61fe75394a414c19d3"), looks := false }, kinds := [], alts := [], laidByText := true, laidKinds := [.data], laidTests := true, laidLooks := .later }
def SpotsHasUptoCardSaid : Prop := Claim7.holds Tryz.pinned (.plain (OpenSpec.upto spotsHasSpec)) spotsHasUptoCard

/-- THE SECOND FORM's CARD OF 'tidehalllaw12.SpotsMany'. -/
def spotsManyUptoCard : Claim7 := { stood := { row := spotsManyUptoRow, standIns := [], harness := (true, "5af0a0985afdf2a713c94a4bb0b9ac27080857231353ed61fe75394a414c19d3"), looks := false }, kinds := [], alts := [], laidByText := true, laidKinds := [.data], laidTests := true, laidLooks := .later }
def SpotsManyUptoCardSaid : Prop := Claim7.holds Tryz.pinned (.plain (OpenSpec.upto spotsManySpec)) spotsManyUptoCard

/-- THE SECOND FORM's CARD OF 'tidehalllaw12.SpotsTurns'. -/
def spotsTurnsUptoCard : Claim7 := { stood := { row := spotsTurnsUptoRow, standIns := [], harness := (true, "5af0a0985afdf2a713c94a4bb0b9ac27080857231353ed61fe75394a414c19d3"), looks := false }, kinds := [], alts := [], laidByText := true, laidKinds := [.data], laidTests := true, laidLooks := .later }
def SpotsTurnsUptoCardSaid : Prop := Claim7.holds Tryz.pinned (.plain (OpenSpec.upto spotsTurnsSpec)) spotsTurnsUptoCard
end Rows
end Go.Proofs.YtfbegeopiakccaaGreatDoor

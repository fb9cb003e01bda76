/-
  DERIVED. GIVEN WITH THE SEED: THE CARDS: each row of YtbobfhoimhambaaDoorRows.lean that lists a variable, with what it lists TIED to the program's text (the seventh form; the later family's looks); each row that meets fmt, with fmt's text TOLD by the authors' own Lean function (tested against real Go, not proved from fmt's source: count such statements apart). THE CARD IS WHAT COUNTS. Prove the row's statement (the work); the ties are given (YtbobfhoimhambaaDoorTie.lean); close each card by the builder's one call (the guide's Derived/Test/ToyasCard.lean, 'card_holds'). Laid BY PROGRAM, IN A SANDBOX (cutbox-door.mjs). By AI agents, Wed Nov 11 2026. No macro, syntax, notation, axiom, sorry.
-/
import Derived.Test.YtbobfhoimhambaaDoorRows
import GoSem.ClaimSeven
namespace Go.Proofs.YtbobfhoimhambaaDoor
namespace Rows

/-- THE TIED CARD OF 'tidehalllaw06.PlaceNames'. -/
def placeNamesCard : Claim7 := { stood := { row := placeNamesRow, standIns := [], harness := (true, "58f3fb3f4d72da0368756c8ff125c253f56d42d1314ebbec6cac9a1fad4d3d02"), looks := false }, kinds := [], alts := [], laidByText := true, laidKinds := [.data], laidTests := true, laidLooks := .later }
def PlaceNamesCardSaid : Prop := Claim7.holds Tryd.pinned (.plain (OpenSpec.ofChange placeNamesSpec)) placeNamesCard

/-- THE TIED CARD OF 'tidehalllaw06.PlaceCounts'. -/
def placeCountsCard : Claim7 := { stood := { row := placeCountsRow, standIns := [], harness := (true, "58f3fb3f4d72da0368756c8ff125c253f56d42d1314ebbec6cac9a1fad4d3d02"), looks := false }, kinds := [], alts := [], laidByText := true, laidKinds := [.data], laidTests := true, laidLooks := .later }
def PlaceCountsCardSaid : Prop := Claim7.holds Tryd.pinned (.plain (OpenSpec.ofChange placeCountsSpec)) placeCountsCard

/-- THE TIED CARD OF 'tidehalllaw06.PlaceMesh'. -/
def placeMeshCard : Claim7 := { stood := { row := placeMeshRow, standIns := [], harness := (true, "58f3fb3f4d72da0368756c8ff125c253f56d42d1314ebbec6cac9a1fad4d3d02"), looks := false }, kinds := [], alts := [], laidByText := true, laidKinds := [.data], laidTests := true, laidLooks := .later }
def PlaceMeshCardSaid : Prop := Claim7.holds Tryd.pinned (.plain (OpenSpec.ofChange placeMeshSpec)) placeMeshCard

/-- THE TIED CARD OF 'tidehalllaw06.PlacePasses'. -/
def placePassesCard : Claim7 := { stood := { row := placePassesRow, standIns := [], harness := (true, "58f3fb3f4d72da0368756c8ff125c253f56d42d1314ebbec6cac9a1fad4d3d02"), looks := false }, kinds := [], alts := [], laidByText := true, laidKinds := [.data], laidTests := true, laidLooks := .later }
def PlacePassesCardSaid : Prop := Claim7.holds Tryd.pinned (.plain (OpenSpec.ofChange placePassesSpec)) placePassesCard

/-- THE SECOND FORM's CARD OF 'tidehalllaw06.PlaceNames'. -/
def placeNamesUptoCard : Claim7 := { stood := { row := placeNamesUptoRow, standIns := [], harness := (true, "58f3fb3f4d72da0368756c8ff125c253f56d42d1314ebbec6cac9a1fad4d3d02"), looks := false }, kinds := [], alts := [], laidByText := true, laidKinds := [.data], laidTests := true, laidLooks := .later }
def PlaceNamesUptoCardSaid : Prop := Claim7.holds Tryd.pinned (.plain (OpenSpec.upto placeNamesSpec)) placeNamesUptoCard

/-- THE SECOND FORM's CARD OF 'tidehalllaw06.PlaceCounts'. -/
def placeCountsUptoCard : Claim7 := { stood := { row := placeCountsUptoRow, standIns := [], harness := (true, "58f3fb3f4d72da0368756c8ff125c253f56d42d1314ebbec6cac9a1fad4d3d02"), looks := false }, kinds := [], alts := [], laidByText := true, laidKinds := [.data], laidTests := true, laidLooks := .later }
def PlaceCountsUptoCardSaid : Prop := Claim7.holds Tryd.pinned (.plain (OpenSpec.upto placeCountsSpec)) placeCountsUptoCard

/-- THE SECOND FORM's CARD OF 'tidehalllaw06.PlaceMesh'. -/
def placeMeshUptoCard : Claim7 := { stood := { row := placeMeshUptoRow, standIns := [], harness := (true, "58f3fb3f4d72da0368756c8ff125c253f56d42d1314ebbec6cac9a1fad4d3d02"), looks := false }, kinds := [], alts := [], laidByText := true, laidKinds := [.data], laidTests := true, laidLooks := .later }
def PlaceMeshUptoCardSaid : Prop := Claim7.holds Tryd.pinned (.plain (OpenSpec.upto placeMeshSpec)) placeMeshUptoCard

/-- THE SECOND FORM's CARD OF 'tidehalllaw06.PlacePasses'. -/
def placePassesUptoCard : Claim7 := { stood := { row := placePassesUptoRow, standIns := [], harness := (true, "58f3fb3f4d72da0368756c8ff125c253f56d42d1314ebbec6cac9a1fad4d3d02"), looks := false }, kinds := [], alts := [], laidByText := true, laidKinds := [.data], laidTests := true, laidLooks := .later }
def PlacePassesUptoCardSaid : Prop := Claim7.holds Tryd.pinned (.plain (OpenSpec.upto placePassesSpec)) placePassesUptoCard
end Rows
end Go.Proofs.YtbobfhoimhambaaDoor

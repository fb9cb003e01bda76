/-
  DERIVED. GIVEN WITH THE SEED: THE CARDS: each row of YtldcagjnngkabaaGreatDoorRows.lean that lists a variable, with what it lists TIED to the program's text (the seventh form; the later family's looks); each row that meets fmt, with fmt's text TOLD by the authors' own Lean function (tested against real Go, not proved from fmt's source: count such statements apart). THE CARD IS WHAT COUNTS. Prove the row's statement (the work); the ties are given (YtldcagjnngkabaaGreatDoorTie.lean); close each card by the builder's one call (the guide's Derived/Test/ToyasCard.lean, 'card_holds'). Laid BY PROGRAM, IN A SANDBOX (cutbox-door.mjs). By AI agents, Wed Nov 11 2026. No macro, syntax, notation, axiom, sorry.
-/
import Derived.Test.YtldcagjnngkabaaGreatDoorRows
import GoSem.ClaimSeven
namespace Go.Proofs.YtldcagjnngkabaaGreatDoor
namespace Rows

/-- THE TIED CARD OF 'tidehalllaw11.FreeNames'. -/
def freeNamesCard : Claim7 := { stood := { row := freeNamesRow, standIns := [], harness := (true, "c7de11e0d8c03bf8393ef37553e08d07c169c422493d26f9c2146ca842903a9a"), looks := false }, kinds := [], alts := [], laidByText := true, laidKinds := [.data], laidTests := true, laidLooks := .later }
def FreeNamesCardSaid : Prop := Claim7.holds Tryz.pinned (.plain (OpenSpec.ofChange freeNamesSpec)) freeNamesCard

/-- THE TIED CARD OF 'tidehalllaw11.FreeTells'. -/
def freeTellsCard : Claim7 := { stood := { row := freeTellsRow, standIns := [], harness := (true, "c7de11e0d8c03bf8393ef37553e08d07c169c422493d26f9c2146ca842903a9a"), looks := false }, kinds := [], alts := [], laidByText := true, laidKinds := [.data], laidTests := true, laidLooks := .later }
def FreeTellsCardSaid : Prop := Claim7.holds Tryz.pinned (.plain (OpenSpec.ofChange freeTellsSpec)) freeTellsCard

/-- THE TIED CARD OF 'tidehalllaw11.FreeSoon'. -/
def freeSoonCard : Claim7 := { stood := { row := freeSoonRow, standIns := [], harness := (true, "c7de11e0d8c03bf8393ef37553e08d07c169c422493d26f9c2146ca842903a9a"), looks := false }, kinds := [], alts := [], laidByText := true, laidKinds := [.data], laidTests := true, laidLooks := .later }
def FreeSoonCardSaid : Prop := Claim7.holds Tryz.pinned (.plain (OpenSpec.ofChange freeSoonSpec)) freeSoonCard

/-- THE TIED CARD OF 'tidehalllaw11.FreeLonger'. -/
def freeLongerCard : Claim7 := { stood := { row := freeLongerRow, standIns := [], harness := (true, "c7de11e0d8c03bf8393ef37553e08d07c169c422493d26f9c2146ca842903a9a"), looks := false }, kinds := [], alts := [], laidByText := true, laidKinds := [.data], laidTests := true, laidLooks := .later }
def FreeLongerCardSaid : Prop := Claim7.holds Tryz.pinned (.plain (OpenSpec.ofChange freeLongerSpec)) freeLongerCard

/-- THE TIED CARD OF 'tidehalllaw11.FreeLess'. -/
def freeLessCard : Claim7 := { stood := { row := freeLessRow, standIns := [], harness := (true, "c7de11e0d8c03bf8393ef37553e08d07c169c422493d26f9c2146ca842903a9a"), looks := false }, kinds := [], alts := [], laidByText := true, laidKinds := [.data], laidTests := true, laidLooks := .later }
def FreeLessCardSaid : Prop := Claim7.holds Tryz.pinned (.plain (OpenSpec.ofChange freeLessSpec)) freeLessCard

/-- THE SECOND FORM's CARD OF 'tidehalllaw11.FreeNames'. -/
def freeNamesUptoCard : Claim7 := { stood := { row := freeNamesUptoRow, standIns := [], harness := (true, "c7de11e0d8c03bf8393ef37553e08d07c169c422493d26f9c2146ca842903a9a"), looks := false }, kinds := [], alts := [], laidByText := true, laidKinds := [.data], laidTests := true, laidLooks := .later }
def FreeNamesUptoCardSaid : Prop := Claim7.holds Tryz.pinned (.plain (OpenSpec.upto freeNamesSpec)) freeNamesUptoCard

/-- THE SECOND FORM's CARD OF 'tidehalllaw11.FreeTells'. -/
def freeTellsUptoCard : Claim7 := { stood := { row := freeTellsUptoRow, standIns := [], harness := (true, "c7de11e0d8c03bf8393ef37553e08d07c169c422493d26f9c2146ca842903a9a"), looks := false }, kinds := [], alts := [], laidByText := true, laidKinds := [.data], laidTests := true, laidLooks := .later }
def FreeTellsUptoCardSaid : Prop := Claim7.holds Tryz.pinned (.plain (OpenSpec.upto freeTellsSpec)) freeTellsUptoCard

/-- THE SECOND FORM's CARD OF 'tidehalllaw11.FreeSoon'. -/
def freeSoonUptoCard : Claim7 := { stood := { row := freeSoonUptoRow, standIns := [], harness := (true, "c7de11e0d8c03bf8393ef37553e08d07c169c422493d26f9c2146ca842903a9a"), looks := false }, kinds := [], alts := [], laidByText := true, laidKinds := [.data], laidTests := true, laidLooks := .later }
def FreeSoonUptoCardSaid : Prop := Claim7.holds Tryz.pinned (.plain (OpenSpec.upto freeSoonSpec)) freeSoonUptoCard

/-- THE SECOND FORM's CARD OF 'tidehalllaw11.FreeLonger'. -/
def freeLongerUptoCard : Claim7 := { stood := { row := freeLongerUptoRow, standIns := [], harness := (true, "c7de11e0d8c03bf8393ef37553e08d07c169c422493d26f9c2146ca842903a9a"), looks := false }, kinds := [], alts := [], laidByText := true, laidKinds := [.data], laidTests := true, laidLooks := .later }
def FreeLongerUptoCardSaid : Prop := Claim7.holds Tryz.pinned (.plain (OpenSpec.upto freeLongerSpec)) freeLongerUptoCard

/-- THE SECOND FORM's CARD OF 'tidehalllaw11.FreeLess'. -/
def freeLessUptoCard : Claim7 := { stood := { row := freeLessUptoRow, standIns := [], harness := (true, "c7de11e0d8c03bf8393ef37553e08d07c169c422493d26f9c2146ca842903a9a"), looks := false }, kinds := [], alts := [], laidByText := true, laidKinds := [.data], laidTests := true, laidLooks := .later }
def FreeLessUptoCardSaid : Prop := Claim7.holds Tryz.pinned (.plain (OpenSpec.upto freeLessSpec)) freeLessUptoCard
end Rows
end Go.Proofs.YtldcagjnngkabaaGreatDoor

/-
  DERIVED. GIVEN WITH THE SEED: THE CARDS: each row of YtbedhpooeabehaaDoorRows.lean that lists a variable, with what it lists TIED to the program's text (the seventh form; the later family's looks); each row that meets fmt, with fmt's text TOLD by the authors' own Lean function (tested against real Go, not proved from fmt's source: count such statements apart). THE CARD IS WHAT COUNTS. Prove the row's statement (the work); the ties are given (YtbedhpooeabehaaDoorTie.lean); close each card by the builder's one call (the guide's Derived/Test/ToyasCard.lean, 'card_holds'). Laid BY PROGRAM, IN A SANDBOX (cutbox-door.mjs). By AI agents, Wed Nov 11 2026. No macro, syntax, notation, axiom, sorry.
-/
import Derived.Test.YtbedhpooeabehaaDoorRows
import GoSem.ClaimSeven
namespace Go.Proofs.YtbedhpooeabehaaDoor
namespace Rows

/-- THE TIED CARD OF 'tidehalllaw14.ScoreNames'. -/
def scoreNamesCard : Claim7 := { stood := { row := scoreNamesRow, standIns := [], harness := (true, "fbda840ed9dcbeb27aaddda1cf19b7b19bdf8bc3d1170206222b84083d9fd82a"), looks := false }, kinds := [], alts := [], laidByText := true, laidKinds := [.data], laidTests := true, laidLooks := .later }
def ScoreNamesCardSaid : Prop := Claim7.holds Tryd.pinned (.plain (OpenSpec.ofChange scoreNamesSpec)) scoreNamesCard

/-- THE TIED CARD OF 'tidehalllaw14.ScoreBothWays'. -/
def scoreBothWaysCard : Claim7 := { stood := { row := scoreBothWaysRow, standIns := [], harness := (true, "fbda840ed9dcbeb27aaddda1cf19b7b19bdf8bc3d1170206222b84083d9fd82a"), looks := false }, kinds := [], alts := [], laidByText := true, laidKinds := [.data], laidTests := true, laidLooks := .later }
def ScoreBothWaysCardSaid : Prop := Claim7.holds Tryd.pinned (.plain (OpenSpec.ofChange scoreBothWaysSpec)) scoreBothWaysCard

/-- THE TIED CARD OF 'tidehalllaw14.ScoreMore'. -/
def scoreMoreCard : Claim7 := { stood := { row := scoreMoreRow, standIns := [], harness := (true, "fbda840ed9dcbeb27aaddda1cf19b7b19bdf8bc3d1170206222b84083d9fd82a"), looks := false }, kinds := [], alts := [], laidByText := true, laidKinds := [.data], laidTests := true, laidLooks := .later }
def ScoreMoreCardSaid : Prop := Claim7.holds Tryd.pinned (.plain (OpenSpec.ofChange scoreMoreSpec)) scoreMoreCard

/-- THE TIED CARD OF 'tidehalllaw14.ScoreSpread'. -/
def scoreSpreadCard : Claim7 := { stood := { row := scoreSpreadRow, standIns := [], harness := (true, "fbda840ed9dcbeb27aaddda1cf19b7b19bdf8bc3d1170206222b84083d9fd82a"), looks := false }, kinds := [], alts := [], laidByText := true, laidKinds := [.data], laidTests := true, laidLooks := .later }
def ScoreSpreadCardSaid : Prop := Claim7.holds Tryd.pinned (.plain (OpenSpec.ofChange scoreSpreadSpec)) scoreSpreadCard

/-- THE SECOND FORM's CARD OF 'tidehalllaw14.ScoreNames'. -/
def scoreNamesUptoCard : Claim7 := { stood := { row := scoreNamesUptoRow, standIns := [], harness := (true, "fbda840ed9dcbeb27aaddda1cf19b7b19bdf8bc3d1170206222b84083d9fd82a"), looks := false }, kinds := [], alts := [], laidByText := true, laidKinds := [.data], laidTests := true, laidLooks := .later }
def ScoreNamesUptoCardSaid : Prop := Claim7.holds Tryd.pinned (.plain (OpenSpec.upto scoreNamesSpec)) scoreNamesUptoCard

/-- THE SECOND FORM's CARD OF 'tidehalllaw14.ScoreBothWays'. -/
def scoreBothWaysUptoCard : Claim7 := { stood := { row := scoreBothWaysUptoRow, standIns := [], harness := (true, "fbda840ed9dcbeb27aaddda1cf19b7b19bdf8bc3d1170206222b84083d9fd82a"), looks := false }, kinds := [], alts := [], laidByText := true, laidKinds := [.data], laidTests := true, laidLooks := .later }
def ScoreBothWaysUptoCardSaid : Prop := Claim7.holds Tryd.pinned (.plain (OpenSpec.upto scoreBothWaysSpec)) scoreBothWaysUptoCard

/-- THE SECOND FORM's CARD OF 'tidehalllaw14.ScoreMore'. -/
def scoreMoreUptoCard : Claim7 := { stood := { row := scoreMoreUptoRow, standIns := [], harness := (true, "fbda840ed9dcbeb27aaddda1cf19b7b19bdf8bc3d1170206222b84083d9fd82a"), looks := false }, kinds := [], alts := [], laidByText := true, laidKinds := [.data], laidTests := true, laidLooks := .later }
def ScoreMoreUptoCardSaid : Prop := Claim7.holds Tryd.pinned (.plain (OpenSpec.upto scoreMoreSpec)) scoreMoreUptoCard

/-- THE SECOND FORM's CARD OF 'tidehalllaw14.ScoreSpread'. -/
def scoreSpreadUptoCard : Claim7 := { stood := { row := scoreSpreadUptoRow, standIns := [], harness := (true, "fbda840ed9dcbeb27aaddda1cf19b7b19bdf8bc3d1170206222b84083d9fd82a"), looks := false }, kinds := [], alts := [], laidByText := true, laidKinds := [.data], laidTests := true, laidLooks := .later }
def ScoreSpreadUptoCardSaid : Prop := Claim7.holds Tryd.pinned (.plain (OpenSpec.upto scoreSpreadSpec)) scoreSpreadUptoCard
end Rows
end Go.Proofs.YtbedhpooeabehaaDoor

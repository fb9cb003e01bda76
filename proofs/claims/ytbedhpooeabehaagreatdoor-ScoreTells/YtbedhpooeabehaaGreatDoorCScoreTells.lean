/-
  score's answers are the document's
-/
import Derived.Test.YtbedhpooeabehaaGreatDoorPart23
import Derived.Test.YtbedhpooeabehaaGreatDoorPart24
import Derived.Test.YtbedhpooeabehaaGreatDoorTie
import Derived.Test.YtbedhpooeabehaaGreatDoorCards
namespace Go.Proofs.YtbedhpooeabehaaGreatDoor.scoreTells
open Go Go.ChangeShapes Go.WideShapes Go.ChangeAt Go.RowKit
set_option linter.unusedVariables false

end Go.Proofs.YtbedhpooeabehaaGreatDoor.scoreTells

namespace Go.Proofs.YtbedhpooeabehaaGreatDoor
theorem scoreTells_holds : Rows.ScoreTellsCardSaid := scoreTells.card
#print axioms scoreTells_holds
end Go.Proofs.YtbedhpooeabehaaGreatDoor

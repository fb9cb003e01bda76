/-
  slices.SortFunc over what is asked for, as the library's contract asks for it.
-/
import Derived.Test.YtanhhlekbdhfmaaDoorProg
import Derived.Shelf.SlSortCmp.SmallK
import Derived.Shelf.Small.Bits
import Derived.Shelf.Lay
import Derived.Ground.SlsfProg
import Derived.Ground.NamesProg
namespace Go.Proofs.YtanhhlekbdhfmaaDoor
open Go Go.Shelf Go.RowKit Go.Lib Go.Sort

shelf_lay_g SlLaysF0.n6 Slsf 6 at Tryd 20 as sortW
shelf_lay Lays.n125 Nm 125 at Tryd as bitsLenW
#check @sortW
#check @bitsLenW

end Go.Proofs.YtanhhlekbdhfmaaDoor

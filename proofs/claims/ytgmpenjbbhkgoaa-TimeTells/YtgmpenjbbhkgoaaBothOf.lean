/-
  The program's call and the document's answer come to one value.
-/
import Derived.Test.YtgmpenjbbhkgoaaKit
import Derived.Test.YtgmpenjbbhkgoaaProg
namespace Go.Proofs.Ytgmpenjbbhkgoaa
open Go.RowKit Go.Shelf

/-- The program's call and the document's answer come to one value. -/
def Both (f g : FuncId) (args : Array Value) (v : Value) : Prop :=
  (∀ w : World, Calls Try.prog f args w fun x W' => x = .returned v ∧ Below w.heap.size w W') ∧ (∀ w : World, Calls Try.prog g args w fun x W' => x = .returned v ∧ Below w.heap.size w W')

end Go.Proofs.Ytgmpenjbbhkgoaa

/-
  The statement TurnGroup, walked.
-/
import Derived.Test.YtanhhlekbdhfmaaDoorLawTurnGroupF
import Derived.Test.YtanhhlekbdhfmaaDoorLawTurnGroupT1
import Derived.Test.YtanhhlekbdhfmaaDoorLawTurnGroupT3
import Derived.Test.YtanhhlekbdhfmaaDoorLawTurnGroupT6
namespace Go.Proofs.YtanhhlekbdhfmaaDoor
open Go Go.RowKit Go.Shelf

theorem turnGroup_walk (x y z : Int) (p q r t : Bool) (_ : (Lit.int .i64 x).wf = true) (_ : (Lit.int .i64 y).wf = true) (_ : (Lit.int .i64 z).wf = true) (w : World) (hO : OrdOk w) :
    Calls Tryd.prog 5 #[V7 x y z p q r t] w fun e W' => e = .returned (.bool true) ∧ Below w.heap.size w W' := by
  by_cases hm : mayD x y z
  · cases t
    · exact tg_f1 w hO hm rfl
    · rcases turns_count (w := (x, y, z, p, q, r, true)) (mayT_D.2 hm) rfl with h | h | h
      · exact tg_t1 w hO hm (by rw [h]; rfl)
      · exact tg_t3 w hO hm (by rw [h]; rfl) (by rw [h]; rfl)
      · exact tg_t6 w hO hm (by rw [h]; rfl) (by rw [h]; rfl) (by rw [h]; rfl)
  · exact tg_off w hO hm

end Go.Proofs.YtanhhlekbdhfmaaDoor

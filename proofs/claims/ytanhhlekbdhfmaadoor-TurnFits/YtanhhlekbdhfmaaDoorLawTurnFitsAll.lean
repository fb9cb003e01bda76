/-
  The statement TurnFits, walked.
-/
import Derived.Test.YtanhhlekbdhfmaaDoorLawTurnFits0
import Derived.Test.YtanhhlekbdhfmaaDoorLawTurnFits1
import Derived.Test.YtanhhlekbdhfmaaDoorLawTurnFits2
namespace Go.Proofs.YtanhhlekbdhfmaaDoor
open Go Go.RowKit Go.Shelf

theorem tmod_cases {a : Int} (h : 0 ≤ a ∧ a ≤ 255) : a.tmod 3 = 0 ∨ a.tmod 3 = 1 ∨ a.tmod 3 = 2 := by
  rw [Int.tmod_eq_emod_of_nonneg h.1]
  omega

theorem turnFits_walk (d0 d1 d2 x y z : Int) (p q r t : Bool) (a b : Int) (_ : (Lit.int .i64 d0).wf = true) (_ : (Lit.int .i64 d1).wf = true) (_ : (Lit.int .i64 d2).wf = true) (_ : (Lit.int .i64 x).wf = true) (_ : (Lit.int .i64 y).wf = true) (_ : (Lit.int .i64 z).wf = true) (ha : 0 ≤ a ∧ a ≤ 255) (hb : 0 ≤ b ∧ b ≤ 255) (w : World) (hO : OrdOk w) :
    Calls Tryd.prog 6 #[A3 d0 d1 d2, V7 x y z p q r t, .int .u8 a, .int .u8 b] w fun e W' => e = .returned (.bool true) ∧ Below w.heap.size w W' := by
  by_cases h : mayD d0 d1 d2 ∧ mayD x y z
  · obtain ⟨hd, hm⟩ := h
    rcases tmod_cases ha with e | e | e <;> rcases tmod_cases hb with k | k | k
    · exact tf_00 a b w hO hd hm e k
    · exact tf_01 a b w hO hd hm e k
    · exact tf_02 a b w hO hd hm e k
    · exact tf_10 a b w hO hd hm e k
    · exact tf_11 a b w hO hd hm e k
    · exact tf_12 a b w hO hd hm e k
    · exact tf_20 a b w hO hd hm e k
    · exact tf_21 a b w hO hd hm e k
    · exact tf_22 a b w hO hd hm e k
  · exact tf_off a b w hO h

end Go.Proofs.YtanhhlekbdhfmaaDoor

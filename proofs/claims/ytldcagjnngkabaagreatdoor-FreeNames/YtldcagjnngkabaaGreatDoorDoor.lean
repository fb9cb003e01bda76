/-
  What the statements that list math/bits' table ask ahead of a walk: the table lies in its variable, as the condition says.
-/
import Derived.Test.YtldcagjnngkabaaGreatDoorPart10
import Derived.Test.YtldcagjnngkabaaGreatDoorPart27
import Derived.Test.YtldcagjnngkabaaGreatDoorRows
import Derived.ProofKit
import Derived.LaidMore
import Derived.OpenShut
import Derived.Stop.Joined
import Derived.Lib.LaidTab
import Derived.SevenTiedAt
namespace Go.Proofs.YtldcagjnngkabaaGreatDoor
open Go Go.ChangeShapes Go.WideShapes Go.ChangeAt Go.RowKit

def tabLaid : List (String × DataW Unit) := [("math/bits.deBruijn64tab", Rows.laid_math_bits_deBruijn64tab)]

theorem tab_named : Tryz.prog.globalNamed "math/bits.deBruijn64tab" = some 0 := by kernel_rfl
theorem tab_type : (Tryz.prog.globals[0]?).map (·.type) = some 237 := by kernel_rfl

/-- The heap that the program's own start leaves meets the condition. -/
theorem door_met (os : Os) (args : Array Value) : laidMetH Tryz.prog tabLaid ((World.doorLaid Tryz.prog 14 os).forCall (fun _ _ => 0) ⟨#[], args, []⟩).memory :=
  laidMetH_of_parts3 (fuel := 8) (laidMet_of_run' 8 (by kernel_rfl) (by kernel_rfl)) (by kernel_rfl) (by kernel_rfl)

theorem tab_datum : (Rows.laid_math_bits_deBruijn64tab : DataW Unit) = Lib.tabData .u8 (ofN Lib.deBruijn64tab) := rfl

theorem tab_of {W : World} (h : laidMetH Tryz.prog tabLaid W) : TabOk W := by
  rw [MakeChecks.laidMetH_plain _ _ _ (by kernel_rfl)] at h
  unfold tabLaid at h
  rw [tab_datum] at h
  have hT := Lib.tabIs_of_head tab_named tab_type Tryz.underlying237 Tryz.underlying5 (by kernel_rfl) (by kernel_rfl) h
  intro j hj
  have := hT.cell tab_named j (by rw [ofN_len]; exact hj)
  rw [this, ofN_get]

/-- No parameter's type asks for a stand-in. -/
theorem noS_stand_in (ts : Array TypeId) (h : (ts.toList.all fun t => !Tryz.prog.wantsStandIn t) = true) (j : Nat) (t : TypeId) (ht : ts[j]? = some t) : Tryz.prog.wantsStandIn t = false := by
  have hm : t ∈ ts.toList := by
    obtain ⟨hlt, he⟩ := Array.getElem?_eq_some_iff.1 ht
    rw [← he]
    exact Array.getElem_mem_toList hlt
  have := List.all_eq_true.1 h t hm
  simpa using this

end Go.Proofs.YtldcagjnngkabaaGreatDoor

/-
  NARROWER THAN 'FOR EVERY INPUT', by the rows' own cells (each row's printed sentence says how): TurnNames: laid · TurnTells: laid · TurnGroup: laid · TurnFits: laid.
  DERIVED. THE GIVEN ROWS OF THIS SEAT. 4 by the template 'for every input the law returns true; each argument reads behind the call as it read before'; 0 by the template 'total and deterministic' (their statements: YtanhhlekbdhfmaaDoorTotals.lean).
  GIVEN WITH THE SEED: the statements are not yours to turn. If you find one false, say at which input.
  Laid BY PROGRAM, IN A SANDBOX (cutbox-rows.mjs): the forced cells as the released guide's own fill.sh prints them over the translation 38918b9ec8a2d583… (all of the seat's roots in one cut). By AI agents, Wed Nov 11 2026. No macro, syntax, notation, axiom, sorry.
-/
import Derived.Test.YtanhhlekbdhfmaaDoorChecked
import GoSem.Claim
import GoSem.ClaimJoined
import GoSem.ClaimMapViews
import Derived.JoinedTies
import Derived.KernelRfl
namespace Go.Proofs.YtanhhlekbdhfmaaDoor
/- THE CELL 'sum', in the pinned program and in every row, IS THE sha256 OF THE DUMP (.gsa) THAT YtanhhlekbdhfmaaDoorProg.lean LOADS. Nothing in Lean hashes anything: it is a label: what it is worth is what the hold of that sum in a sandbox is worth. -/
noncomputable def Tryd.pinned : Pinned := { name := "ytanhhlekbdhfmaadoor", sum := "38918b9ec8a2d5830be0677db9d0ded43de28e802a7d3656484cadab4d88328b", checked := Tryd.checked }
namespace Rows
def none {H : Type} : Left H := { results := [], args := [] }

/- WHAT THE LISTED PACKAGE-LEVEL VARIABLES READ AS WHEN THE CALL BEGINS. Each datum BY PROGRAM (the guide's laid-datum.mjs) off the statement by which the dump's own 'gosem.cut.vars' lays the variable. In a bare row this is a premise. The card (YtanhhlekbdhfmaaDoorCards.lean) ties it to the program's text. -/
def laid_tidehall_turn_orders {H : Type} : DataW H := .agg [.agg [.lit (.int .i64 0), .lit (.int .i64 1), .lit (.int .i64 2)], .agg [.lit (.int .i64 0), .lit (.int .i64 2), .lit (.int .i64 1)], .agg [.lit (.int .i64 1), .lit (.int .i64 0), .lit (.int .i64 2)], .agg [.lit (.int .i64 1), .lit (.int .i64 2), .lit (.int .i64 0)], .agg [.lit (.int .i64 2), .lit (.int .i64 0), .lit (.int .i64 1)], .agg [.lit (.int .i64 2), .lit (.int .i64 1), .lit (.int .i64 0)]]

/-- 'tidehalllaw04.TurnNames': WHATEVER THE INPUT: true; the input reads as it did. -/
def turnNamesSpec : ChangeSpec := { name := "turnNames", fn := fun _ => fun
  | [] => { results := [.lit (.bool true)], args := [] }
  | _ => none }
def turnNamesRow : OpenClaim := { program := "ytanhhlekbdhfmaadoor", sum := "38918b9ec8a2d5830be0677db9d0ded43de28e802a7d3656484cadab4d88328b", func := "tidehall/tidehalllaw04.TurnNames", spec := "turnNames", unfollowed := true, recurses := true, named := ["tidehall/turn.orders"], plainKeys := false, apart := false, laid := [("tidehall/turn.orders", laid_tidehall_turn_orders)] }
def TurnNamesSaid : Prop := turnNamesRow.holds Tryd.pinned (OpenSpec.ofChange turnNamesSpec)

/-- ITS FALSE NEIGHBOUR: 'it returns false'. Refute it at one input. -/
def turnNamesWrong : ChangeSpec := { name := "turnNames", fn := fun _ => fun
  | [] => { results := [.lit (.bool false)], args := [] }
  | _ => none }
def TurnNamesWrongFalsely : Prop := turnNamesRow.holds Tryd.pinned (OpenSpec.ofChange turnNamesWrong)

/-- 'tidehalllaw04.TurnTells': WHATEVER THE INPUT: true; the input reads as it did. -/
def turnTellsSpec : ChangeSpec := { name := "turnTells", fn := fun _ => fun
  | [d1, d2, d3, d4] => { results := [.lit (.bool true)], args := [d1, d2, d3, d4] }
  | _ => none }
def turnTellsRow : OpenClaim := { program := "ytanhhlekbdhfmaadoor", sum := "38918b9ec8a2d5830be0677db9d0ded43de28e802a7d3656484cadab4d88328b", func := "tidehall/tidehalllaw04.TurnTells", spec := "turnTells", unfollowed := true, recurses := true, named := ["tidehall/turn.orders"], plainKeys := false, apart := false, laid := [("tidehall/turn.orders", laid_tidehall_turn_orders)] }
def TurnTellsSaid : Prop := turnTellsRow.holds Tryd.pinned (OpenSpec.ofChange turnTellsSpec)

/-- ITS FALSE NEIGHBOUR: 'it returns false'. Refute it at one input. -/
def turnTellsWrong : ChangeSpec := { name := "turnTells", fn := fun _ => fun
  | [d1, d2, d3, d4] => { results := [.lit (.bool false)], args := [d1, d2, d3, d4] }
  | _ => none }
def TurnTellsWrongFalsely : Prop := turnTellsRow.holds Tryd.pinned (OpenSpec.ofChange turnTellsWrong)

/-- 'tidehalllaw04.TurnGroup': WHATEVER THE INPUT: true; the input reads as it did. -/
def turnGroupSpec : ChangeSpec := { name := "turnGroup", fn := fun _ => fun
  | [d] => { results := [.lit (.bool true)], args := [d] }
  | _ => none }
def turnGroupRow : OpenClaim := { program := "ytanhhlekbdhfmaadoor", sum := "38918b9ec8a2d5830be0677db9d0ded43de28e802a7d3656484cadab4d88328b", func := "tidehall/tidehalllaw04.TurnGroup", spec := "turnGroup", unfollowed := true, recurses := true, named := ["tidehall/turn.orders"], plainKeys := false, apart := false, laid := [("tidehall/turn.orders", laid_tidehall_turn_orders)] }
def TurnGroupSaid : Prop := turnGroupRow.holds Tryd.pinned (OpenSpec.ofChange turnGroupSpec)

/-- ITS FALSE NEIGHBOUR: 'it returns false'. Refute it at one input. -/
def turnGroupWrong : ChangeSpec := { name := "turnGroup", fn := fun _ => fun
  | [d] => { results := [.lit (.bool false)], args := [d] }
  | _ => none }
def TurnGroupWrongFalsely : Prop := turnGroupRow.holds Tryd.pinned (OpenSpec.ofChange turnGroupWrong)

/-- 'tidehalllaw04.TurnFits': WHATEVER THE INPUT: true; the input reads as it did. -/
def turnFitsSpec : ChangeSpec := { name := "turnFits", fn := fun _ => fun
  | [d1, d2, d3, d4] => { results := [.lit (.bool true)], args := [d1, d2, d3, d4] }
  | _ => none }
def turnFitsRow : OpenClaim := { program := "ytanhhlekbdhfmaadoor", sum := "38918b9ec8a2d5830be0677db9d0ded43de28e802a7d3656484cadab4d88328b", func := "tidehall/tidehalllaw04.TurnFits", spec := "turnFits", unfollowed := true, recurses := true, named := ["tidehall/turn.orders"], plainKeys := false, apart := false, laid := [("tidehall/turn.orders", laid_tidehall_turn_orders)] }
def TurnFitsSaid : Prop := turnFitsRow.holds Tryd.pinned (OpenSpec.ofChange turnFitsSpec)

/-- ITS FALSE NEIGHBOUR: 'it returns false'. Refute it at one input. -/
def turnFitsWrong : ChangeSpec := { name := "turnFits", fn := fun _ => fun
  | [d1, d2, d3, d4] => { results := [.lit (.bool false)], args := [d1, d2, d3, d4] }
  | _ => none }
def TurnFitsWrongFalsely : Prop := turnFitsRow.holds Tryd.pinned (OpenSpec.ofChange turnFitsWrong)

/- THE SECOND FORM. 'bulk': how many values and letters a reading holds, each counted each time it is reached (what is shared counts as often as it is met; a slice's spare places count too). A statement '..UptoSaid' is the law's where the arguments, and the package variables that the reading takes, are together of bulk at most 1048576: NARROWER than '..Said'. Prove '..Said' where nothing that the law and all that it calls make is longer than what came in: it says more and counts as full. Else prove '..UptoSaid'. A law counts once. -/
mutual
def uptoBulk {H : Type} : DataW H → Nat
  | .lit (.string bytes) => bytes.length + 1
  | .lit _ => 1
  | .nil => 1
  | .ptr d => uptoBulk d + 1
  | .slice elems spare => uptoBulkAll elems + uptoBulkAll spare + 1
  | .agg parts => uptoBulkAll parts + 1
  | .iface _ d => uptoBulk d + 1
  | .map entries => uptoBulkEntries entries + 1
  | .held _ => 1
def uptoBulkAll {H : Type} : List (DataW H) → Nat
  | [] => 0
  | d :: r => uptoBulk d + uptoBulkAll r
def uptoBulkEntries {H : Type} : List (Lit × DataW H) → Nat
  | [] => 0
  | x :: r => uptoBulkEntry x + uptoBulkEntries r
def uptoBulkEntry {H : Type} : Lit × DataW H → Nat
  | (.string bytes, d) => bytes.length + uptoBulk d + 1
  | (_, d) => uptoBulk d + 1
 end
def uptoSmall : (H : Type) → List (DataW H) → Bool := fun _ ds => decide (uptoBulkAll ds ≤ 1048576)
def OpenSpec.upto (s : _root_.Go.ChangeSpec) : _root_.Go.OpenSpec := { _root_.Go.OpenSpec.ofChange s with cond := some uptoSmall }

/-- 'tidehalllaw04.TurnNames', WHERE WHAT IT READS IS OF BULK AT MOST 1048576: true; the input reads as it did. -/
def turnNamesUptoRow : OpenClaim := { program := "ytanhhlekbdhfmaadoor", sum := "38918b9ec8a2d5830be0677db9d0ded43de28e802a7d3656484cadab4d88328b", func := "tidehall/tidehalllaw04.TurnNames", spec := "turnNames", unfollowed := true, recurses := true, named := ["tidehall/turn.orders"], plainKeys := false, apart := false, laid := [("tidehall/turn.orders", laid_tidehall_turn_orders)], narrowed := true }
def TurnNamesUptoSaid : Prop := turnNamesUptoRow.holds Tryd.pinned (OpenSpec.upto turnNamesSpec)

/-- 'tidehalllaw04.TurnTells', WHERE WHAT IT READS IS OF BULK AT MOST 1048576: true; the input reads as it did. -/
def turnTellsUptoRow : OpenClaim := { program := "ytanhhlekbdhfmaadoor", sum := "38918b9ec8a2d5830be0677db9d0ded43de28e802a7d3656484cadab4d88328b", func := "tidehall/tidehalllaw04.TurnTells", spec := "turnTells", unfollowed := true, recurses := true, named := ["tidehall/turn.orders"], plainKeys := false, apart := false, laid := [("tidehall/turn.orders", laid_tidehall_turn_orders)], narrowed := true }
def TurnTellsUptoSaid : Prop := turnTellsUptoRow.holds Tryd.pinned (OpenSpec.upto turnTellsSpec)

/-- 'tidehalllaw04.TurnGroup', WHERE WHAT IT READS IS OF BULK AT MOST 1048576: true; the input reads as it did. -/
def turnGroupUptoRow : OpenClaim := { program := "ytanhhlekbdhfmaadoor", sum := "38918b9ec8a2d5830be0677db9d0ded43de28e802a7d3656484cadab4d88328b", func := "tidehall/tidehalllaw04.TurnGroup", spec := "turnGroup", unfollowed := true, recurses := true, named := ["tidehall/turn.orders"], plainKeys := false, apart := false, laid := [("tidehall/turn.orders", laid_tidehall_turn_orders)], narrowed := true }
def TurnGroupUptoSaid : Prop := turnGroupUptoRow.holds Tryd.pinned (OpenSpec.upto turnGroupSpec)

/-- 'tidehalllaw04.TurnFits', WHERE WHAT IT READS IS OF BULK AT MOST 1048576: true; the input reads as it did. -/
def turnFitsUptoRow : OpenClaim := { program := "ytanhhlekbdhfmaadoor", sum := "38918b9ec8a2d5830be0677db9d0ded43de28e802a7d3656484cadab4d88328b", func := "tidehall/tidehalllaw04.TurnFits", spec := "turnFits", unfollowed := true, recurses := true, named := ["tidehall/turn.orders"], plainKeys := false, apart := false, laid := [("tidehall/turn.orders", laid_tidehall_turn_orders)], narrowed := true }
def TurnFitsUptoSaid : Prop := turnFitsUptoRow.holds Tryd.pinned (OpenSpec.upto turnFitsSpec)

end Rows
end Go.Proofs.YtanhhlekbdhfmaaDoor

/-
  NARROWER THAN 'FOR EVERY INPUT', by the rows' own cells (each row's printed sentence says how): SpotsTells: laid · SpotsTurns: laid.
  DERIVED. THE GIVEN ROWS OF THIS SEAT. 2 by the template 'for every input the law returns true; each argument reads behind the call as it read before'; 0 by the template 'total and deterministic' (their statements: YtlahfffgmfjpaaaGreatDoorTotals.lean).
  GIVEN WITH THE SEED: the statements are not yours to turn. If you find one false, say at which input.
  Laid BY PROGRAM, IN A SANDBOX (cutbox-rows.mjs): the forced cells as the released guide's own fill.sh prints them over the translation 9d052844a3fc726b… (all of the seat's roots in one cut). By AI agents, Wed Nov 11 2026. No macro, syntax, notation, axiom, sorry.
-/
import Derived.Test.YtlahfffgmfjpaaaGreatDoorChecked
import GoSem.Claim
import GoSem.ClaimJoined
import GoSem.ClaimMapViews
import Derived.JoinedTies
import Derived.KernelRfl
namespace Go.Proofs.YtlahfffgmfjpaaaGreatDoor
/- THE CELL 'sum', in the pinned program and in every row, IS THE sha256 OF THE DUMP (.gsa) THAT YtlahfffgmfjpaaaGreatDoorProg.lean LOADS. Nothing in Lean hashes anything: it is a label: what it is worth is what the hold of that sum in a sandbox is worth. -/
noncomputable def Tryz.pinned : Pinned := { name := "ytlahfffgmfjpaaagreatdoor", sum := "9d052844a3fc726b36d873dcdf76c1e3280dff0a6037e7fad19366751d5e1691", checked := Tryz.checked }
namespace Rows
def none {H : Type} : Left H := { results := [], args := [] }

/- WHAT THE LISTED PACKAGE-LEVEL VARIABLES READ AS WHEN THE CALL BEGINS. Each datum BY PROGRAM (the guide's laid-datum.mjs) off the statement by which the dump's own 'gosem.cut.vars' lays the variable. In a bare row this is a premise. The card (YtlahfffgmfjpaaaGreatDoorCards.lean) ties it to the program's text. -/
def laid_tidehall_turn_orders {H : Type} : DataW H := .agg [.agg [.lit (.int .i64 0), .lit (.int .i64 1), .lit (.int .i64 2)], .agg [.lit (.int .i64 0), .lit (.int .i64 2), .lit (.int .i64 1)], .agg [.lit (.int .i64 1), .lit (.int .i64 0), .lit (.int .i64 2)], .agg [.lit (.int .i64 1), .lit (.int .i64 2), .lit (.int .i64 0)], .agg [.lit (.int .i64 2), .lit (.int .i64 0), .lit (.int .i64 1)], .agg [.lit (.int .i64 2), .lit (.int .i64 1), .lit (.int .i64 0)]]

/-- 'tidehalllaw12.SpotsTells': WHATEVER THE INPUT: true; the input reads as it did. -/
def spotsTellsSpec : ChangeSpec := { name := "spotsTells", fn := fun _ => fun
  | [d1, d2, d3, d4, d5] => { results := [.lit (.bool true)], args := [d1, d2, d3, d4, d5] }
  | _ => none }
def spotsTellsRow : OpenClaim := { program := "ytlahfffgmfjpaaagreatdoor", sum := "9d052844a3fc726b36d873dcdf76c1e3280dff0a6037e7fad19366751d5e1691", func := "tidehall/tidehalllaw12.SpotsTells", spec := "spotsTells", unfollowed := true, recurses := true, named := ["tidehall/turn.orders"], plainKeys := false, apart := false, laid := [("tidehall/turn.orders", laid_tidehall_turn_orders)] }
def SpotsTellsSaid : Prop := spotsTellsRow.holds Tryz.pinned (OpenSpec.ofChange spotsTellsSpec)

/-- ITS FALSE NEIGHBOUR: 'it returns false'. Refute it at one input. -/
def spotsTellsWrong : ChangeSpec := { name := "spotsTells", fn := fun _ => fun
  | [d1, d2, d3, d4, d5] => { results := [.lit (.bool false)], args := [d1, d2, d3, d4, d5] }
  | _ => none }
def SpotsTellsWrongFalsely : Prop := spotsTellsRow.holds Tryz.pinned (OpenSpec.ofChange spotsTellsWrong)

/-- 'tidehalllaw12.SpotsTurns': WHATEVER THE INPUT: true; the input reads as it did. -/
def spotsTurnsSpec : ChangeSpec := { name := "spotsTurns", fn := fun _ => fun
  | [d1, d2, d3, d4] => { results := [.lit (.bool true)], args := [d1, d2, d3, d4] }
  | _ => none }
def spotsTurnsRow : OpenClaim := { program := "ytlahfffgmfjpaaagreatdoor", sum := "9d052844a3fc726b36d873dcdf76c1e3280dff0a6037e7fad19366751d5e1691", func := "tidehall/tidehalllaw12.SpotsTurns", spec := "spotsTurns", unfollowed := true, recurses := true, named := ["tidehall/turn.orders"], plainKeys := false, apart := false, laid := [("tidehall/turn.orders", laid_tidehall_turn_orders)] }
def SpotsTurnsSaid : Prop := spotsTurnsRow.holds Tryz.pinned (OpenSpec.ofChange spotsTurnsSpec)

/-- ITS FALSE NEIGHBOUR: 'it returns false'. Refute it at one input. -/
def spotsTurnsWrong : ChangeSpec := { name := "spotsTurns", fn := fun _ => fun
  | [d1, d2, d3, d4] => { results := [.lit (.bool false)], args := [d1, d2, d3, d4] }
  | _ => none }
def SpotsTurnsWrongFalsely : Prop := spotsTurnsRow.holds Tryz.pinned (OpenSpec.ofChange spotsTurnsWrong)

/- THE SECOND FORM. 'bulk': how many values and letters a reading holds, each counted each time it is reached (what is shared counts as often as it is met; a slice's spare places count too). A statement '..UptoSaid' is the law's where the arguments, and the package variables that the reading takes, are together of bulk at most 1048576: NARROWER than '..Said'. Prove '..Said' where nothing that the law and all that it calls make is longer than what came in: it says more and counts as full. Else prove '..UptoSaid'. A law counts once. -/
mutual
def uptoBulk {H : Type} : DataW H → Nat
  | .lit (.string bytes) => bytes.length + 1
  | .lit _ => 1
  | .nil => 1
  | .ptr d => uptoBulk d + 1
  | .slice elems spare => uptoBulkAll elems + uptoBulkAll spare + 1
  | .agg parts => uptoBulkAll parts + 1
  | .iface _ d => uptoBulk d + 1
  | .map entries => uptoBulkEntries entries + 1
  | .held _ => 1
def uptoBulkAll {H : Type} : List (DataW H) → Nat
  | [] => 0
  | d :: r => uptoBulk d + uptoBulkAll r
def uptoBulkEntries {H : Type} : List (Lit × DataW H) → Nat
  | [] => 0
  | x :: r => uptoBulkEntry x + uptoBulkEntries r
def uptoBulkEntry {H : Type} : Lit × DataW H → Nat
  | (.string bytes, d) => bytes.length + uptoBulk d + 1
  | (_, d) => uptoBulk d + 1
 end
def uptoSmall : (H : Type) → List (DataW H) → Bool := fun _ ds => decide (uptoBulkAll ds ≤ 1048576)
def OpenSpec.upto (s : _root_.Go.ChangeSpec) : _root_.Go.OpenSpec := { _root_.Go.OpenSpec.ofChange s with cond := some uptoSmall }

/-- 'tidehalllaw12.SpotsTells', WHERE WHAT IT READS IS OF BULK AT MOST 1048576: true; the input reads as it did. -/
def spotsTellsUptoRow : OpenClaim := { program := "ytlahfffgmfjpaaagreatdoor", sum := "9d052844a3fc726b36d873dcdf76c1e3280dff0a6037e7fad19366751d5e1691", func := "tidehall/tidehalllaw12.SpotsTells", spec := "spotsTells", unfollowed := true, recurses := true, named := ["tidehall/turn.orders"], plainKeys := false, apart := false, laid := [("tidehall/turn.orders", laid_tidehall_turn_orders)], narrowed := true }
def SpotsTellsUptoSaid : Prop := spotsTellsUptoRow.holds Tryz.pinned (OpenSpec.upto spotsTellsSpec)

/-- 'tidehalllaw12.SpotsTurns', WHERE WHAT IT READS IS OF BULK AT MOST 1048576: true; the input reads as it did. -/
def spotsTurnsUptoRow : OpenClaim := { program := "ytlahfffgmfjpaaagreatdoor", sum := "9d052844a3fc726b36d873dcdf76c1e3280dff0a6037e7fad19366751d5e1691", func := "tidehall/tidehalllaw12.SpotsTurns", spec := "spotsTurns", unfollowed := true, recurses := true, named := ["tidehall/turn.orders"], plainKeys := false, apart := false, laid := [("tidehall/turn.orders", laid_tidehall_turn_orders)], narrowed := true }
def SpotsTurnsUptoSaid : Prop := spotsTurnsUptoRow.holds Tryz.pinned (OpenSpec.upto spotsTurnsSpec)

end Rows
end Go.Proofs.YtlahfffgmfjpaaaGreatDoor

/-
  No cell of these rows narrows 'for every input' (looked for: loops, veiled, ifaces, maps, wideKeys, modest, calm, conditions, laid).
  DERIVED. THE GIVEN ROWS OF THIS SEAT. 6 by the template 'for every input the law returns true; each argument reads behind the call as it read before'; 0 by the template 'total and deterministic' (their statements: YtikjgfjahjlbaaaTotals.lean).
  GIVEN WITH THE SEED: the statements are not yours to turn. If you find one false, say at which input.
  Laid BY PROGRAM, IN A SANDBOX (cutbox-rows.mjs): the forced cells as the released guide's own fill.sh prints them over the translation 8739c6bc7c2e1ef0… (all of the seat's roots in one cut). By AI agents, Wed Nov 11 2026. No macro, syntax, notation, axiom, sorry.
-/
import Derived.Test.YtikjgfjahjlbaaaChecked
import GoSem.Claim
import GoSem.ClaimJoined
import GoSem.ClaimMapViews
import Derived.JoinedTies
import Derived.KernelRfl
namespace Go.Proofs.Ytikjgfjahjlbaaa
/- THE CELL 'sum', in the pinned program and in every row, IS THE sha256 OF THE DUMP (.gsa) THAT YtikjgfjahjlbaaaProg.lean LOADS. Nothing in Lean hashes anything: it is a label: what it is worth is what the hold of that sum in a sandbox is worth. -/
noncomputable def Try.pinned : Pinned := { name := "ytikjgfjahjlbaaa", sum := "8739c6bc7c2e1ef08590cf44d734faaf0b7fa3865934aa92c3c1a1e98ba4199b", checked := Try.checked }
namespace Rows
def none {H : Type} : Left H := { results := [], args := [] }

/-- 'tidehalllaw08.CalNames': WHATEVER THE INPUT: true; the input reads as it did. -/
def calNamesSpec : ChangeSpec := { name := "calNames", fn := fun _ => fun
  | [] => { results := [.lit (.bool true)], args := [] }
  | _ => none }
def calNamesRow : OpenClaim := { program := "ytikjgfjahjlbaaa", sum := "8739c6bc7c2e1ef08590cf44d734faaf0b7fa3865934aa92c3c1a1e98ba4199b", func := "tidehall/tidehalllaw08.CalNames", spec := "calNames", unfollowed := true, recurses := true, apart := false }
def CalNamesSaid : Prop := calNamesRow.holds Try.pinned (OpenSpec.ofChange calNamesSpec)

/-- ITS FALSE NEIGHBOUR: 'it returns false'. Refute it at one input. -/
def calNamesWrong : ChangeSpec := { name := "calNames", fn := fun _ => fun
  | [] => { results := [.lit (.bool false)], args := [] }
  | _ => none }
def CalNamesWrongFalsely : Prop := calNamesRow.holds Try.pinned (OpenSpec.ofChange calNamesWrong)

/-- 'tidehalllaw08.CalTurns': WHATEVER THE INPUT: true; the input reads as it did. -/
def calTurnsSpec : ChangeSpec := { name := "calTurns", fn := fun _ => fun
  | [d1, d2, d3, d4] => { results := [.lit (.bool true)], args := [d1, d2, d3, d4] }
  | _ => none }
def calTurnsRow : OpenClaim := { program := "ytikjgfjahjlbaaa", sum := "8739c6bc7c2e1ef08590cf44d734faaf0b7fa3865934aa92c3c1a1e98ba4199b", func := "tidehall/tidehalllaw08.CalTurns", spec := "calTurns", unfollowed := true, recurses := true, apart := false }
def CalTurnsSaid : Prop := calTurnsRow.holds Try.pinned (OpenSpec.ofChange calTurnsSpec)

/-- ITS FALSE NEIGHBOUR: 'it returns false'. Refute it at one input. -/
def calTurnsWrong : ChangeSpec := { name := "calTurns", fn := fun _ => fun
  | [d1, d2, d3, d4] => { results := [.lit (.bool false)], args := [d1, d2, d3, d4] }
  | _ => none }
def CalTurnsWrongFalsely : Prop := calTurnsRow.holds Try.pinned (OpenSpec.ofChange calTurnsWrong)

/-- 'tidehalllaw08.CalAsks': WHATEVER THE INPUT: true; the input reads as it did. -/
def calAsksSpec : ChangeSpec := { name := "calAsks", fn := fun _ => fun
  | [d1, d2, d3, d4] => { results := [.lit (.bool true)], args := [d1, d2, d3, d4] }
  | _ => none }
def calAsksRow : OpenClaim := { program := "ytikjgfjahjlbaaa", sum := "8739c6bc7c2e1ef08590cf44d734faaf0b7fa3865934aa92c3c1a1e98ba4199b", func := "tidehall/tidehalllaw08.CalAsks", spec := "calAsks", unfollowed := true, recurses := true, apart := false }
def CalAsksSaid : Prop := calAsksRow.holds Try.pinned (OpenSpec.ofChange calAsksSpec)

/-- ITS FALSE NEIGHBOUR: 'it returns false'. Refute it at one input. -/
def calAsksWrong : ChangeSpec := { name := "calAsks", fn := fun _ => fun
  | [d1, d2, d3, d4] => { results := [.lit (.bool false)], args := [d1, d2, d3, d4] }
  | _ => none }
def CalAsksWrongFalsely : Prop := calAsksRow.holds Try.pinned (OpenSpec.ofChange calAsksWrong)

/-- 'tidehalllaw08.CalPut': WHATEVER THE INPUT: true; the input reads as it did. -/
def calPutSpec : ChangeSpec := { name := "calPut", fn := fun _ => fun
  | [d1, d2, d3] => { results := [.lit (.bool true)], args := [d1, d2, d3] }
  | _ => none }
def calPutRow : OpenClaim := { program := "ytikjgfjahjlbaaa", sum := "8739c6bc7c2e1ef08590cf44d734faaf0b7fa3865934aa92c3c1a1e98ba4199b", func := "tidehall/tidehalllaw08.CalPut", spec := "calPut", unfollowed := true, recurses := true, apart := false }
def CalPutSaid : Prop := calPutRow.holds Try.pinned (OpenSpec.ofChange calPutSpec)

/-- ITS FALSE NEIGHBOUR: 'it returns false'. Refute it at one input. -/
def calPutWrong : ChangeSpec := { name := "calPut", fn := fun _ => fun
  | [d1, d2, d3] => { results := [.lit (.bool false)], args := [d1, d2, d3] }
  | _ => none }
def CalPutWrongFalsely : Prop := calPutRow.holds Try.pinned (OpenSpec.ofChange calPutWrong)

/-- 'tidehalllaw08.CalNext': WHATEVER THE INPUT: true; the input reads as it did. -/
def calNextSpec : ChangeSpec := { name := "calNext", fn := fun _ => fun
  | [d1, d2, d3, d4] => { results := [.lit (.bool true)], args := [d1, d2, d3, d4] }
  | _ => none }
def calNextRow : OpenClaim := { program := "ytikjgfjahjlbaaa", sum := "8739c6bc7c2e1ef08590cf44d734faaf0b7fa3865934aa92c3c1a1e98ba4199b", func := "tidehall/tidehalllaw08.CalNext", spec := "calNext", unfollowed := true, recurses := true, apart := false }
def CalNextSaid : Prop := calNextRow.holds Try.pinned (OpenSpec.ofChange calNextSpec)

/-- ITS FALSE NEIGHBOUR: 'it returns false'. Refute it at one input. -/
def calNextWrong : ChangeSpec := { name := "calNext", fn := fun _ => fun
  | [d1, d2, d3, d4] => { results := [.lit (.bool false)], args := [d1, d2, d3, d4] }
  | _ => none }
def CalNextWrongFalsely : Prop := calNextRow.holds Try.pinned (OpenSpec.ofChange calNextWrong)

/-- 'tidehalllaw08.CalCut': WHATEVER THE INPUT: true; the input reads as it did. -/
def calCutSpec : ChangeSpec := { name := "calCut", fn := fun _ => fun
  | [d1, d2, d3, d4, d5] => { results := [.lit (.bool true)], args := [d1, d2, d3, d4, d5] }
  | _ => none }
def calCutRow : OpenClaim := { program := "ytikjgfjahjlbaaa", sum := "8739c6bc7c2e1ef08590cf44d734faaf0b7fa3865934aa92c3c1a1e98ba4199b", func := "tidehall/tidehalllaw08.CalCut", spec := "calCut", unfollowed := true, recurses := true, apart := false }
def CalCutSaid : Prop := calCutRow.holds Try.pinned (OpenSpec.ofChange calCutSpec)

/-- ITS FALSE NEIGHBOUR: 'it returns false'. Refute it at one input. -/
def calCutWrong : ChangeSpec := { name := "calCut", fn := fun _ => fun
  | [d1, d2, d3, d4, d5] => { results := [.lit (.bool false)], args := [d1, d2, d3, d4, d5] }
  | _ => none }
def CalCutWrongFalsely : Prop := calCutRow.holds Try.pinned (OpenSpec.ofChange calCutWrong)

/- THE SECOND FORM. 'bulk': how many values and letters a reading holds, each counted each time it is reached (what is shared counts as often as it is met; a slice's spare places count too). A statement '..UptoSaid' is the law's where the arguments, and the package variables that the reading takes, are together of bulk at most 1048576: NARROWER than '..Said'. Prove '..Said' where nothing that the law and all that it calls make is longer than what came in: it says more and counts as full. Else prove '..UptoSaid'. A law counts once. -/
mutual
def uptoBulk {H : Type} : DataW H → Nat
  | .lit (.string bytes) => bytes.length + 1
  | .lit _ => 1
  | .nil => 1
  | .ptr d => uptoBulk d + 1
  | .slice elems spare => uptoBulkAll elems + uptoBulkAll spare + 1
  | .agg parts => uptoBulkAll parts + 1
  | .iface _ d => uptoBulk d + 1
  | .map entries => uptoBulkEntries entries + 1
  | .held _ => 1
def uptoBulkAll {H : Type} : List (DataW H) → Nat
  | [] => 0
  | d :: r => uptoBulk d + uptoBulkAll r
def uptoBulkEntries {H : Type} : List (Lit × DataW H) → Nat
  | [] => 0
  | x :: r => uptoBulkEntry x + uptoBulkEntries r
def uptoBulkEntry {H : Type} : Lit × DataW H → Nat
  | (.string bytes, d) => bytes.length + uptoBulk d + 1
  | (_, d) => uptoBulk d + 1
 end
def uptoSmall : (H : Type) → List (DataW H) → Bool := fun _ ds => decide (uptoBulkAll ds ≤ 1048576)
def OpenSpec.upto (s : _root_.Go.ChangeSpec) : _root_.Go.OpenSpec := { _root_.Go.OpenSpec.ofChange s with cond := some uptoSmall }

/-- 'tidehalllaw08.CalNames', WHERE WHAT IT READS IS OF BULK AT MOST 1048576: true; the input reads as it did. -/
def calNamesUptoRow : OpenClaim := { program := "ytikjgfjahjlbaaa", sum := "8739c6bc7c2e1ef08590cf44d734faaf0b7fa3865934aa92c3c1a1e98ba4199b", func := "tidehall/tidehalllaw08.CalNames", spec := "calNames", unfollowed := true, recurses := true, apart := false, narrowed := true }
def CalNamesUptoSaid : Prop := calNamesUptoRow.holds Try.pinned (OpenSpec.upto calNamesSpec)

/-- 'tidehalllaw08.CalTurns', WHERE WHAT IT READS IS OF BULK AT MOST 1048576: true; the input reads as it did. -/
def calTurnsUptoRow : OpenClaim := { program := "ytikjgfjahjlbaaa", sum := "8739c6bc7c2e1ef08590cf44d734faaf0b7fa3865934aa92c3c1a1e98ba4199b", func := "tidehall/tidehalllaw08.CalTurns", spec := "calTurns", unfollowed := true, recurses := true, apart := false, narrowed := true }
def CalTurnsUptoSaid : Prop := calTurnsUptoRow.holds Try.pinned (OpenSpec.upto calTurnsSpec)

/-- 'tidehalllaw08.CalAsks', WHERE WHAT IT READS IS OF BULK AT MOST 1048576: true; the input reads as it did. -/
def calAsksUptoRow : OpenClaim := { program := "ytikjgfjahjlbaaa", sum := "8739c6bc7c2e1ef08590cf44d734faaf0b7fa3865934aa92c3c1a1e98ba4199b", func := "tidehall/tidehalllaw08.CalAsks", spec := "calAsks", unfollowed := true, recurses := true, apart := false, narrowed := true }
def CalAsksUptoSaid : Prop := calAsksUptoRow.holds Try.pinned (OpenSpec.upto calAsksSpec)

/-- 'tidehalllaw08.CalPut', WHERE WHAT IT READS IS OF BULK AT MOST 1048576: true; the input reads as it did. -/
def calPutUptoRow : OpenClaim := { program := "ytikjgfjahjlbaaa", sum := "8739c6bc7c2e1ef08590cf44d734faaf0b7fa3865934aa92c3c1a1e98ba4199b", func := "tidehall/tidehalllaw08.CalPut", spec := "calPut", unfollowed := true, recurses := true, apart := false, narrowed := true }
def CalPutUptoSaid : Prop := calPutUptoRow.holds Try.pinned (OpenSpec.upto calPutSpec)

/-- 'tidehalllaw08.CalNext', WHERE WHAT IT READS IS OF BULK AT MOST 1048576: true; the input reads as it did. -/
def calNextUptoRow : OpenClaim := { program := "ytikjgfjahjlbaaa", sum := "8739c6bc7c2e1ef08590cf44d734faaf0b7fa3865934aa92c3c1a1e98ba4199b", func := "tidehall/tidehalllaw08.CalNext", spec := "calNext", unfollowed := true, recurses := true, apart := false, narrowed := true }
def CalNextUptoSaid : Prop := calNextUptoRow.holds Try.pinned (OpenSpec.upto calNextSpec)

/-- 'tidehalllaw08.CalCut', WHERE WHAT IT READS IS OF BULK AT MOST 1048576: true; the input reads as it did. -/
def calCutUptoRow : OpenClaim := { program := "ytikjgfjahjlbaaa", sum := "8739c6bc7c2e1ef08590cf44d734faaf0b7fa3865934aa92c3c1a1e98ba4199b", func := "tidehall/tidehalllaw08.CalCut", spec := "calCut", unfollowed := true, recurses := true, apart := false, narrowed := true }
def CalCutUptoSaid : Prop := calCutUptoRow.holds Try.pinned (OpenSpec.upto calCutSpec)

end Rows
end Go.Proofs.Ytikjgfjahjlbaaa

/-
  No cell of these rows narrows 'for every input' (looked for: loops, veiled, ifaces, maps, wideKeys, modest, calm, conditions, laid).
  DERIVED. THE GIVEN ROWS OF THIS SEAT. 4 by the template 'for every input the law returns true; each argument reads behind the call as it read before'; 0 by the template 'total and deterministic' (their statements: YtkbdkhohecdbhaaTotals.lean).
  GIVEN WITH THE SEED: the statements are not yours to turn. If you find one false, say at which input.
  Laid BY PROGRAM, IN A SANDBOX (cutbox-rows.mjs): the forced cells as the released guide's own fill.sh prints them over the translation f83503d751c8bfb2… (all of the seat's roots in one cut). By AI agents, Wed Nov 11 2026. No macro, syntax, notation, axiom, sorry.
-/
import Derived.Test.YtkbdkhohecdbhaaChecked
import GoSem.Claim
import GoSem.ClaimJoined
import GoSem.ClaimMapViews
import Derived.JoinedTies
import Derived.KernelRfl
namespace Go.Proofs.Ytkbdkhohecdbhaa
/- THE CELL 'sum', in the pinned program and in every row, IS THE sha256 OF THE DUMP (.gsa) THAT YtkbdkhohecdbhaaProg.lean LOADS. Nothing in Lean hashes anything: it is a label: what it is worth is what the hold of that sum in a sandbox is worth. -/
noncomputable def Try.pinned : Pinned := { name := "ytkbdkhohecdbhaa", sum := "f83503d751c8bfb213f7165fdb4d61381e14d4a1b8dc505d897048805ecebada", checked := Try.checked }
namespace Rows
def none {H : Type} : Left H := { results := [], args := [] }

/-- 'tidehalllaw10.WhenNames': WHATEVER THE INPUT: true; the input reads as it did. -/
def whenNamesSpec : ChangeSpec := { name := "whenNames", fn := fun _ => fun
  | [] => { results := [.lit (.bool true)], args := [] }
  | _ => none }
def whenNamesRow : OpenClaim := { program := "ytkbdkhohecdbhaa", sum := "f83503d751c8bfb213f7165fdb4d61381e14d4a1b8dc505d897048805ecebada", func := "tidehall/tidehalllaw10.WhenNames", spec := "whenNames", unfollowed := true, recurses := true, apart := false }
def WhenNamesSaid : Prop := whenNamesRow.holds Try.pinned (OpenSpec.ofChange whenNamesSpec)

/-- ITS FALSE NEIGHBOUR: 'it returns false'. Refute it at one input. -/
def whenNamesWrong : ChangeSpec := { name := "whenNames", fn := fun _ => fun
  | [] => { results := [.lit (.bool false)], args := [] }
  | _ => none }
def WhenNamesWrongFalsely : Prop := whenNamesRow.holds Try.pinned (OpenSpec.ofChange whenNamesWrong)

/-- 'tidehalllaw10.WhenTells': WHATEVER THE INPUT: true; the input reads as it did. -/
def whenTellsSpec : ChangeSpec := { name := "whenTells", fn := fun _ => fun
  | [d1, d2, d3] => { results := [.lit (.bool true)], args := [d1, d2, d3] }
  | _ => none }
def whenTellsRow : OpenClaim := { program := "ytkbdkhohecdbhaa", sum := "f83503d751c8bfb213f7165fdb4d61381e14d4a1b8dc505d897048805ecebada", func := "tidehall/tidehalllaw10.WhenTells", spec := "whenTells", unfollowed := true, recurses := true, apart := false }
def WhenTellsSaid : Prop := whenTellsRow.holds Try.pinned (OpenSpec.ofChange whenTellsSpec)

/-- ITS FALSE NEIGHBOUR: 'it returns false'. Refute it at one input. -/
def whenTellsWrong : ChangeSpec := { name := "whenTells", fn := fun _ => fun
  | [d1, d2, d3] => { results := [.lit (.bool false)], args := [d1, d2, d3] }
  | _ => none }
def WhenTellsWrongFalsely : Prop := whenTellsRow.holds Try.pinned (OpenSpec.ofChange whenTellsWrong)

/-- 'tidehalllaw10.WhenLeast': WHATEVER THE INPUT: true; the input reads as it did. -/
def whenLeastSpec : ChangeSpec := { name := "whenLeast", fn := fun _ => fun
  | [d1, d2, d3, d4, d5, d6] => { results := [.lit (.bool true)], args := [d1, d2, d3, d4, d5, d6] }
  | _ => none }
def whenLeastRow : OpenClaim := { program := "ytkbdkhohecdbhaa", sum := "f83503d751c8bfb213f7165fdb4d61381e14d4a1b8dc505d897048805ecebada", func := "tidehall/tidehalllaw10.WhenLeast", spec := "whenLeast", unfollowed := true, recurses := true, apart := false }
def WhenLeastSaid : Prop := whenLeastRow.holds Try.pinned (OpenSpec.ofChange whenLeastSpec)

/-- ITS FALSE NEIGHBOUR: 'it returns false'. Refute it at one input. -/
def whenLeastWrong : ChangeSpec := { name := "whenLeast", fn := fun _ => fun
  | [d1, d2, d3, d4, d5, d6] => { results := [.lit (.bool false)], args := [d1, d2, d3, d4, d5, d6] }
  | _ => none }
def WhenLeastWrongFalsely : Prop := whenLeastRow.holds Try.pinned (OpenSpec.ofChange whenLeastWrong)

/-- 'tidehalllaw10.WhenLast': WHATEVER THE INPUT: true; the input reads as it did. -/
def whenLastSpec : ChangeSpec := { name := "whenLast", fn := fun _ => fun
  | [d1, d2, d3] => { results := [.lit (.bool true)], args := [d1, d2, d3] }
  | _ => none }
def whenLastRow : OpenClaim := { program := "ytkbdkhohecdbhaa", sum := "f83503d751c8bfb213f7165fdb4d61381e14d4a1b8dc505d897048805ecebada", func := "tidehall/tidehalllaw10.WhenLast", spec := "whenLast", unfollowed := true, recurses := true, apart := false }
def WhenLastSaid : Prop := whenLastRow.holds Try.pinned (OpenSpec.ofChange whenLastSpec)

/-- ITS FALSE NEIGHBOUR: 'it returns false'. Refute it at one input. -/
def whenLastWrong : ChangeSpec := { name := "whenLast", fn := fun _ => fun
  | [d1, d2, d3] => { results := [.lit (.bool false)], args := [d1, d2, d3] }
  | _ => none }
def WhenLastWrongFalsely : Prop := whenLastRow.holds Try.pinned (OpenSpec.ofChange whenLastWrong)

/- THE SECOND FORM. 'bulk': how many values and letters a reading holds, each counted each time it is reached (what is shared counts as often as it is met; a slice's spare places count too). A statement '..UptoSaid' is the law's where the arguments, and the package variables that the reading takes, are together of bulk at most 1048576: NARROWER than '..Said'. Prove '..Said' where nothing that the law and all that it calls make is longer than what came in: it says more and counts as full. Else prove '..UptoSaid'. A law counts once. -/
mutual
def uptoBulk {H : Type} : DataW H → Nat
  | .lit (.string bytes) => bytes.length + 1
  | .lit _ => 1
  | .nil => 1
  | .ptr d => uptoBulk d + 1
  | .slice elems spare => uptoBulkAll elems + uptoBulkAll spare + 1
  | .agg parts => uptoBulkAll parts + 1
  | .iface _ d => uptoBulk d + 1
  | .map entries => uptoBulkEntries entries + 1
  | .held _ => 1
def uptoBulkAll {H : Type} : List (DataW H) → Nat
  | [] => 0
  | d :: r => uptoBulk d + uptoBulkAll r
def uptoBulkEntries {H : Type} : List (Lit × DataW H) → Nat
  | [] => 0
  | x :: r => uptoBulkEntry x + uptoBulkEntries r
def uptoBulkEntry {H : Type} : Lit × DataW H → Nat
  | (.string bytes, d) => bytes.length + uptoBulk d + 1
  | (_, d) => uptoBulk d + 1
 end
def uptoSmall : (H : Type) → List (DataW H) → Bool := fun _ ds => decide (uptoBulkAll ds ≤ 1048576)
def OpenSpec.upto (s : _root_.Go.ChangeSpec) : _root_.Go.OpenSpec := { _root_.Go.OpenSpec.ofChange s with cond := some uptoSmall }

/-- 'tidehalllaw10.WhenNames', WHERE WHAT IT READS IS OF BULK AT MOST 1048576: true; the input reads as it did. -/
def whenNamesUptoRow : OpenClaim := { program := "ytkbdkhohecdbhaa", sum := "f83503d751c8bfb213f7165fdb4d61381e14d4a1b8dc505d897048805ecebada", func := "tidehall/tidehalllaw10.WhenNames", spec := "whenNames", unfollowed := true, recurses := true, apart := false, narrowed := true }
def WhenNamesUptoSaid : Prop := whenNamesUptoRow.holds Try.pinned (OpenSpec.upto whenNamesSpec)

/-- 'tidehalllaw10.WhenTells', WHERE WHAT IT READS IS OF BULK AT MOST 1048576: true; the input reads as it did. -/
def whenTellsUptoRow : OpenClaim := { program := "ytkbdkhohecdbhaa", sum := "f83503d751c8bfb213f7165fdb4d61381e14d4a1b8dc505d897048805ecebada", func := "tidehall/tidehalllaw10.WhenTells", spec := "whenTells", unfollowed := true, recurses := true, apart := false, narrowed := true }
def WhenTellsUptoSaid : Prop := whenTellsUptoRow.holds Try.pinned (OpenSpec.upto whenTellsSpec)

/-- 'tidehalllaw10.WhenLeast', WHERE WHAT IT READS IS OF BULK AT MOST 1048576: true; the input reads as it did. -/
def whenLeastUptoRow : OpenClaim := { program := "ytkbdkhohecdbhaa", sum := "f83503d751c8bfb213f7165fdb4d61381e14d4a1b8dc505d897048805ecebada", func := "tidehall/tidehalllaw10.WhenLeast", spec := "whenLeast", unfollowed := true, recurses := true, apart := false, narrowed := true }
def WhenLeastUptoSaid : Prop := whenLeastUptoRow.holds Try.pinned (OpenSpec.upto whenLeastSpec)

/-- 'tidehalllaw10.WhenLast', WHERE WHAT IT READS IS OF BULK AT MOST 1048576: true; the input reads as it did. -/
def whenLastUptoRow : OpenClaim := { program := "ytkbdkhohecdbhaa", sum := "f83503d751c8bfb213f7165fdb4d61381e14d4a1b8dc505d897048805ecebada", func := "tidehall/tidehalllaw10.WhenLast", spec := "whenLast", unfollowed := true, recurses := true, apart := false, narrowed := true }
def WhenLastUptoSaid : Prop := whenLastUptoRow.holds Try.pinned (OpenSpec.upto whenLastSpec)

end Rows
end Go.Proofs.Ytkbdkhohecdbhaa

/-
  No cell of these rows narrows 'for every input' (looked for: loops, veiled, ifaces, maps, wideKeys, modest, calm, conditions, laid).
  DERIVED. THE GIVEN ROWS OF THIS SEAT. 6 by the template 'for every input the law returns true; each argument reads behind the call as it read before'; 0 by the template 'total and deterministic' (their statements: YtabhlmckncgdjaaTotals.lean).
  GIVEN WITH THE SEED: the statements are not yours to turn. If you find one false, say at which input.
  Laid BY PROGRAM, IN A SANDBOX (cutbox-rows.mjs): the forced cells as the released guide's own fill.sh prints them over the translation e940c98da2ed912f… (all of the seat's roots in one cut). By AI agents, Wed Nov 11 2026. No macro, syntax, notation, axiom, sorry.
-/
import Derived.Test.YtabhlmckncgdjaaChecked
import GoSem.Claim
import GoSem.ClaimJoined
import GoSem.ClaimMapViews
import Derived.JoinedTies
import Derived.KernelRfl
namespace Go.Proofs.Ytabhlmckncgdjaa
/- THE CELL 'sum', in the pinned program and in every row, IS THE sha256 OF THE DUMP (.gsa) THAT YtabhlmckncgdjaaProg.lean LOADS. Nothing in Lean hashes anything: it is a label: what it is worth is what the hold of that sum in a sandbox is worth. -/
noncomputable def Try.pinned : Pinned := { name := "ytabhlmckncgdjaa", sum := "e940c98da2ed912f0065b36d6636fe79a01094c509c9ad8966aa5ac07a4415a1", checked := Try.checked }
namespace Rows
def none {H : Type} : Left H := { results := [], args := [] }

/-- 'tidehalllaw09.CalsNames': WHATEVER THE INPUT: true; the input reads as it did. -/
def calsNamesSpec : ChangeSpec := { name := "calsNames", fn := fun _ => fun
  | [] => { results := [.lit (.bool true)], args := [] }
  | _ => none }
def calsNamesRow : OpenClaim := { program := "ytabhlmckncgdjaa", sum := "e940c98da2ed912f0065b36d6636fe79a01094c509c9ad8966aa5ac07a4415a1", func := "tidehall/tidehalllaw09.CalsNames", spec := "calsNames", unfollowed := true, recurses := true, apart := false }
def CalsNamesSaid : Prop := calsNamesRow.holds Try.pinned (OpenSpec.ofChange calsNamesSpec)

/-- ITS FALSE NEIGHBOUR: 'it returns false'. Refute it at one input. -/
def calsNamesWrong : ChangeSpec := { name := "calsNames", fn := fun _ => fun
  | [] => { results := [.lit (.bool false)], args := [] }
  | _ => none }
def CalsNamesWrongFalsely : Prop := calsNamesRow.holds Try.pinned (OpenSpec.ofChange calsNamesWrong)

/-- 'tidehalllaw09.CalsTurns': WHATEVER THE INPUT: true; the input reads as it did. -/
def calsTurnsSpec : ChangeSpec := { name := "calsTurns", fn := fun _ => fun
  | [d1, d2, d3, d4, d5, d6, d7] => { results := [.lit (.bool true)], args := [d1, d2, d3, d4, d5, d6, d7] }
  | _ => none }
def calsTurnsRow : OpenClaim := { program := "ytabhlmckncgdjaa", sum := "e940c98da2ed912f0065b36d6636fe79a01094c509c9ad8966aa5ac07a4415a1", func := "tidehall/tidehalllaw09.CalsTurns", spec := "calsTurns", unfollowed := true, recurses := true, apart := false }
def CalsTurnsSaid : Prop := calsTurnsRow.holds Try.pinned (OpenSpec.ofChange calsTurnsSpec)

/-- ITS FALSE NEIGHBOUR: 'it returns false'. Refute it at one input. -/
def calsTurnsWrong : ChangeSpec := { name := "calsTurns", fn := fun _ => fun
  | [d1, d2, d3, d4, d5, d6, d7] => { results := [.lit (.bool false)], args := [d1, d2, d3, d4, d5, d6, d7] }
  | _ => none }
def CalsTurnsWrongFalsely : Prop := calsTurnsRow.holds Try.pinned (OpenSpec.ofChange calsTurnsWrong)

/-- 'tidehalllaw09.CalsAsks': WHATEVER THE INPUT: true; the input reads as it did. -/
def calsAsksSpec : ChangeSpec := { name := "calsAsks", fn := fun _ => fun
  | [d1, d2, d3, d4] => { results := [.lit (.bool true)], args := [d1, d2, d3, d4] }
  | _ => none }
def calsAsksRow : OpenClaim := { program := "ytabhlmckncgdjaa", sum := "e940c98da2ed912f0065b36d6636fe79a01094c509c9ad8966aa5ac07a4415a1", func := "tidehall/tidehalllaw09.CalsAsks", spec := "calsAsks", unfollowed := true, recurses := true, apart := false }
def CalsAsksSaid : Prop := calsAsksRow.holds Try.pinned (OpenSpec.ofChange calsAsksSpec)

/-- ITS FALSE NEIGHBOUR: 'it returns false'. Refute it at one input. -/
def calsAsksWrong : ChangeSpec := { name := "calsAsks", fn := fun _ => fun
  | [d1, d2, d3, d4] => { results := [.lit (.bool false)], args := [d1, d2, d3, d4] }
  | _ => none }
def CalsAsksWrongFalsely : Prop := calsAsksRow.holds Try.pinned (OpenSpec.ofChange calsAsksWrong)

/-- 'tidehalllaw09.CalsPut': WHATEVER THE INPUT: true; the input reads as it did. -/
def calsPutSpec : ChangeSpec := { name := "calsPut", fn := fun _ => fun
  | [d1, d2, d3, d4, d5, d6, d7] => { results := [.lit (.bool true)], args := [d1, d2, d3, d4, d5, d6, d7] }
  | _ => none }
def calsPutRow : OpenClaim := { program := "ytabhlmckncgdjaa", sum := "e940c98da2ed912f0065b36d6636fe79a01094c509c9ad8966aa5ac07a4415a1", func := "tidehall/tidehalllaw09.CalsPut", spec := "calsPut", unfollowed := true, recurses := true, apart := false }
def CalsPutSaid : Prop := calsPutRow.holds Try.pinned (OpenSpec.ofChange calsPutSpec)

/-- ITS FALSE NEIGHBOUR: 'it returns false'. Refute it at one input. -/
def calsPutWrong : ChangeSpec := { name := "calsPut", fn := fun _ => fun
  | [d1, d2, d3, d4, d5, d6, d7] => { results := [.lit (.bool false)], args := [d1, d2, d3, d4, d5, d6, d7] }
  | _ => none }
def CalsPutWrongFalsely : Prop := calsPutRow.holds Try.pinned (OpenSpec.ofChange calsPutWrong)

/-- 'tidehalllaw09.CalsApart': WHATEVER THE INPUT: true; the input reads as it did. -/
def calsApartSpec : ChangeSpec := { name := "calsApart", fn := fun _ => fun
  | [d1, d2, d3, d4, d5] => { results := [.lit (.bool true)], args := [d1, d2, d3, d4, d5] }
  | _ => none }
def calsApartRow : OpenClaim := { program := "ytabhlmckncgdjaa", sum := "e940c98da2ed912f0065b36d6636fe79a01094c509c9ad8966aa5ac07a4415a1", func := "tidehall/tidehalllaw09.CalsApart", spec := "calsApart", unfollowed := true, recurses := true, apart := false }
def CalsApartSaid : Prop := calsApartRow.holds Try.pinned (OpenSpec.ofChange calsApartSpec)

/-- ITS FALSE NEIGHBOUR: 'it returns false'. Refute it at one input. -/
def calsApartWrong : ChangeSpec := { name := "calsApart", fn := fun _ => fun
  | [d1, d2, d3, d4, d5] => { results := [.lit (.bool false)], args := [d1, d2, d3, d4, d5] }
  | _ => none }
def CalsApartWrongFalsely : Prop := calsApartRow.holds Try.pinned (OpenSpec.ofChange calsApartWrong)

/-- 'tidehalllaw09.CalsBusy': WHATEVER THE INPUT: true; the input reads as it did. -/
def calsBusySpec : ChangeSpec := { name := "calsBusy", fn := fun _ => fun
  | [d1, d2, d3] => { results := [.lit (.bool true)], args := [d1, d2, d3] }
  | _ => none }
def calsBusyRow : OpenClaim := { program := "ytabhlmckncgdjaa", sum := "e940c98da2ed912f0065b36d6636fe79a01094c509c9ad8966aa5ac07a4415a1", func := "tidehall/tidehalllaw09.CalsBusy", spec := "calsBusy", unfollowed := true, recurses := true, apart := false }
def CalsBusySaid : Prop := calsBusyRow.holds Try.pinned (OpenSpec.ofChange calsBusySpec)

/-- ITS FALSE NEIGHBOUR: 'it returns false'. Refute it at one input. -/
def calsBusyWrong : ChangeSpec := { name := "calsBusy", fn := fun _ => fun
  | [d1, d2, d3] => { results := [.lit (.bool false)], args := [d1, d2, d3] }
  | _ => none }
def CalsBusyWrongFalsely : Prop := calsBusyRow.holds Try.pinned (OpenSpec.ofChange calsBusyWrong)

/- THE SECOND FORM. 'bulk': how many values and letters a reading holds, each counted each time it is reached (what is shared counts as often as it is met; a slice's spare places count too). A statement '..UptoSaid' is the law's where the arguments, and the package variables that the reading takes, are together of bulk at most 1048576: NARROWER than '..Said'. Prove '..Said' where nothing that the law and all that it calls make is longer than what came in: it says more and counts as full. Else prove '..UptoSaid'. A law counts once. -/
mutual
def uptoBulk {H : Type} : DataW H → Nat
  | .lit (.string bytes) => bytes.length + 1
  | .lit _ => 1
  | .nil => 1
  | .ptr d => uptoBulk d + 1
  | .slice elems spare => uptoBulkAll elems + uptoBulkAll spare + 1
  | .agg parts => uptoBulkAll parts + 1
  | .iface _ d => uptoBulk d + 1
  | .map entries => uptoBulkEntries entries + 1
  | .held _ => 1
def uptoBulkAll {H : Type} : List (DataW H) → Nat
  | [] => 0
  | d :: r => uptoBulk d + uptoBulkAll r
def uptoBulkEntries {H : Type} : List (Lit × DataW H) → Nat
  | [] => 0
  | x :: r => uptoBulkEntry x + uptoBulkEntries r
def uptoBulkEntry {H : Type} : Lit × DataW H → Nat
  | (.string bytes, d) => bytes.length + uptoBulk d + 1
  | (_, d) => uptoBulk d + 1
 end
def uptoSmall : (H : Type) → List (DataW H) → Bool := fun _ ds => decide (uptoBulkAll ds ≤ 1048576)
def OpenSpec.upto (s : _root_.Go.ChangeSpec) : _root_.Go.OpenSpec := { _root_.Go.OpenSpec.ofChange s with cond := some uptoSmall }

/-- 'tidehalllaw09.CalsNames', WHERE WHAT IT READS IS OF BULK AT MOST 1048576: true; the input reads as it did. -/
def calsNamesUptoRow : OpenClaim := { program := "ytabhlmckncgdjaa", sum := "e940c98da2ed912f0065b36d6636fe79a01094c509c9ad8966aa5ac07a4415a1", func := "tidehall/tidehalllaw09.CalsNames", spec := "calsNames", unfollowed := true, recurses := true, apart := false, narrowed := true }
def CalsNamesUptoSaid : Prop := calsNamesUptoRow.holds Try.pinned (OpenSpec.upto calsNamesSpec)

/-- 'tidehalllaw09.CalsTurns', WHERE WHAT IT READS IS OF BULK AT MOST 1048576: true; the input reads as it did. -/
def calsTurnsUptoRow : OpenClaim := { program := "ytabhlmckncgdjaa", sum := "e940c98da2ed912f0065b36d6636fe79a01094c509c9ad8966aa5ac07a4415a1", func := "tidehall/tidehalllaw09.CalsTurns", spec := "calsTurns", unfollowed := true, recurses := true, apart := false, narrowed := true }
def CalsTurnsUptoSaid : Prop := calsTurnsUptoRow.holds Try.pinned (OpenSpec.upto calsTurnsSpec)

/-- 'tidehalllaw09.CalsAsks', WHERE WHAT IT READS IS OF BULK AT MOST 1048576: true; the input reads as it did. -/
def calsAsksUptoRow : OpenClaim := { program := "ytabhlmckncgdjaa", sum := "e940c98da2ed912f0065b36d6636fe79a01094c509c9ad8966aa5ac07a4415a1", func := "tidehall/tidehalllaw09.CalsAsks", spec := "calsAsks", unfollowed := true, recurses := true, apart := false, narrowed := true }
def CalsAsksUptoSaid : Prop := calsAsksUptoRow.holds Try.pinned (OpenSpec.upto calsAsksSpec)

/-- 'tidehalllaw09.CalsPut', WHERE WHAT IT READS IS OF BULK AT MOST 1048576: true; the input reads as it did. -/
def calsPutUptoRow : OpenClaim := { program := "ytabhlmckncgdjaa", sum := "e940c98da2ed912f0065b36d6636fe79a01094c509c9ad8966aa5ac07a4415a1", func := "tidehall/tidehalllaw09.CalsPut", spec := "calsPut", unfollowed := true, recurses := true, apart := false, narrowed := true }
def CalsPutUptoSaid : Prop := calsPutUptoRow.holds Try.pinned (OpenSpec.upto calsPutSpec)

/-- 'tidehalllaw09.CalsApart', WHERE WHAT IT READS IS OF BULK AT MOST 1048576: true; the input reads as it did. -/
def calsApartUptoRow : OpenClaim := { program := "ytabhlmckncgdjaa", sum := "e940c98da2ed912f0065b36d6636fe79a01094c509c9ad8966aa5ac07a4415a1", func := "tidehall/tidehalllaw09.CalsApart", spec := "calsApart", unfollowed := true, recurses := true, apart := false, narrowed := true }
def CalsApartUptoSaid : Prop := calsApartUptoRow.holds Try.pinned (OpenSpec.upto calsApartSpec)

/-- 'tidehalllaw09.CalsBusy', WHERE WHAT IT READS IS OF BULK AT MOST 1048576: true; the input reads as it did. -/
def calsBusyUptoRow : OpenClaim := { program := "ytabhlmckncgdjaa", sum := "e940c98da2ed912f0065b36d6636fe79a01094c509c9ad8966aa5ac07a4415a1", func := "tidehall/tidehalllaw09.CalsBusy", spec := "calsBusy", unfollowed := true, recurses := true, apart := false, narrowed := true }
def CalsBusyUptoSaid : Prop := calsBusyUptoRow.holds Try.pinned (OpenSpec.upto calsBusySpec)

end Rows
end Go.Proofs.Ytabhlmckncgdjaa

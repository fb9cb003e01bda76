/-
  What the statements that list turn's orders ask ahead of a walk: the orders lie in their variable, as the condition says.
-/
import Derived.Test.YtanhhlekbdhfmaaDoorTurnGather
import Derived.Test.YtanhhlekbdhfmaaDoorOpen
import Derived.Test.YtanhhlekbdhfmaaDoorRows
import Derived.ProofKit
import Derived.LaidMore
import Derived.OpenShut
import Derived.Stop.Joined
import Derived.Lib.LaidTab
import Derived.SevenTiedAt
namespace Go.Proofs.YtanhhlekbdhfmaaDoor
open Go Go.ChangeShapes Go.WideShapes Go.ChangeAt Go.RowKit

def ordLaid : List (String × DataW Unit) := [("tidehall/turn.orders", Rows.laid_tidehall_turn_orders)]

theorem ord_named : Tryd.prog.globalNamed "tidehall/turn.orders" = some 0 := by kernel_rfl
theorem ord_type : (Tryd.prog.globals[0]?).map (·.type) = some 55 := by kernel_rfl

/-- The heap that the program's own start leaves meets the condition. -/
theorem ord_met (os : Os) (args : Array Value) : laidMetH Tryd.prog ordLaid ((World.doorLaid Tryd.prog 20 os).forCall (fun _ _ => 0) ⟨#[], args, []⟩).memory :=
  laidMetH_of_parts3 (fuel := 8) (laidMet_of_run' 8 (by kernel_rfl) (by kernel_rfl)) (by kernel_rfl) (by kernel_rfl)

/-- A row of three numbers that reads as three known ones holds them. -/
theorem row_of {W : World} {fuel : Nat} {cs : List Value} {a b c : Int} {p : List MemPlace}
    (h : DataW.trod (fun _ => ()) Tryd.prog W 0 (fun _ => true) false fuel 26 cs = some (.agg [.lit (.int .i64 a), .lit (.int .i64 b), .lit (.int .i64 c)], p)) : cs = [.int .i64 a, .int .i64 b, .int .i64 c] :=
  Lib.cells_of_tab (zs := [a, b, c]) Tryd.underlying26 Tryd.underlying3 (by kernel_rfl) (by kernel_rfl) h

theorem ord_cells {W : World} {fuel : Nat} {cs : List Value} {p : List MemPlace} (h : DataW.trod (fun _ => ()) Tryd.prog W 0 (fun _ => true) false fuel 55 cs = some (Rows.laid_tidehall_turn_orders, p)) : cs = ordFlat.map (Value.int .i64) := by
  have hc3 : Tryd.prog.cellsOf 26 = 3 := by kernel_rfl
  have hc18 : Tryd.prog.cellsOf 55 = 18 := by kernel_rfl
  cases fuel with
  | zero => simp [DataW.trod] at h
  | succ fuel =>
    simp only [DataW.trod, Tryd.underlying55, hc3, hc18] at h
    split at h
    · rename_i hl
      obtain ⟨xs, hm, hx⟩ := Option.map_eq_some_iff.1 h
      have hd := congrArg Prod.fst hx
      simp only [Rows.laid_tidehall_turn_orders, DataW.agg.injEq] at hd
      have hget : ∀ i, i < 6 → ∃ d q, xs[i]? = some (d, q) ∧ DataW.trod (fun _ => ()) Tryd.prog W 0 (fun _ => true) false fuel 26 ((cs.drop (i * 3)).take 3) = some (d, q) := by
        intro i hi
        obtain ⟨b, hb, hf⟩ := Lib.mapM_at hm i i (by simp [hi])
        exact ⟨b.1, b.2, hb, hf⟩
      have s : ∀ n, (cs.drop n).take 3 ++ cs.drop (n + 3) = cs.drop n := fun n => by
        have := List.take_append_drop 3 (cs.drop n)
        rwa [List.drop_drop] at this
      have h15 : (cs.drop 15).take 3 = cs.drop 15 := List.take_of_length_le (by simp [hl])
      have e : cs = (cs.drop 0).take 3 ++ ((cs.drop 3).take 3 ++ ((cs.drop 6).take 3 ++ ((cs.drop 9).take 3 ++ ((cs.drop 12).take 3 ++ (cs.drop 15).take 3)))) := by
        rw [h15, s 12, s 9, s 6, s 3, s 0]; rfl
      have r0 : (cs.drop 0).take 3 = [.int .i64 0, .int .i64 1, .int .i64 2] := by
        obtain ⟨d, q, hx, hf⟩ := hget 0 (by omega)
        have := congrArg (fun l => l[0]?) hd
        simp only [List.getElem?_map, hx, Option.map_some, List.getElem?_cons_zero, Option.some.injEq] at this
        subst this
        exact row_of hf
      have r1 : (cs.drop 3).take 3 = [.int .i64 0, .int .i64 2, .int .i64 1] := by
        obtain ⟨d, q, hx, hf⟩ := hget 1 (by omega)
        have := congrArg (fun l => l[1]?) hd
        simp only [List.getElem?_map, hx, Option.map_some, List.getElem?_cons_zero, List.getElem?_cons_succ, Option.some.injEq] at this
        subst this
        exact row_of hf
      have r2 : (cs.drop 6).take 3 = [.int .i64 1, .int .i64 0, .int .i64 2] := by
        obtain ⟨d, q, hx, hf⟩ := hget 2 (by omega)
        have := congrArg (fun l => l[2]?) hd
        simp only [List.getElem?_map, hx, Option.map_some, List.getElem?_cons_zero, List.getElem?_cons_succ, Option.some.injEq] at this
        subst this
        exact row_of hf
      have r3 : (cs.drop 9).take 3 = [.int .i64 1, .int .i64 2, .int .i64 0] := by
        obtain ⟨d, q, hx, hf⟩ := hget 3 (by omega)
        have := congrArg (fun l => l[3]?) hd
        simp only [List.getElem?_map, hx, Option.map_some, List.getElem?_cons_zero, List.getElem?_cons_succ, Option.some.injEq] at this
        subst this
        exact row_of hf
      have r4 : (cs.drop 12).take 3 = [.int .i64 2, .int .i64 0, .int .i64 1] := by
        obtain ⟨d, q, hx, hf⟩ := hget 4 (by omega)
        have := congrArg (fun l => l[4]?) hd
        simp only [List.getElem?_map, hx, Option.map_some, List.getElem?_cons_zero, List.getElem?_cons_succ, Option.some.injEq] at this
        subst this
        exact row_of hf
      have r5 : (cs.drop 15).take 3 = [.int .i64 2, .int .i64 1, .int .i64 0] := by
        obtain ⟨d, q, hx, hf⟩ := hget 5 (by omega)
        have := congrArg (fun l => l[5]?) hd
        simp only [List.getElem?_map, hx, Option.map_some, List.getElem?_cons_zero, List.getElem?_cons_succ, Option.some.injEq] at this
        subst this
        exact row_of hf
      rw [e, r0, r1, r2, r3, r4, r5]
      rfl
    · cases h

theorem ord_of {W : World} (h : laidMetH Tryd.prog ordLaid W) : OrdOk W := by
  rw [MakeChecks.laidMetH_plain _ _ _ (by kernel_rfl)] at h
  obtain ⟨ps, ⟨g', t', cs, fuel, p, q, hg', ht', hvar, hd, _, _⟩, _⟩ := h
  obtain rfl := Option.some.inj (ord_named.symm.trans hg')
  obtain rfl := Option.some.inj (ord_type.symm.trans ht')
  have hc := ord_cells hd
  intro j hj
  have := World.var?_cell ord_named hvar j
  rw [this, ← Array.getElem?_toList, hc]
  have hl : j < ordFlat.length := hj
  simp [hl]

/-- No parameter's type asks for a stand-in. -/
theorem no_stand_in (ts : Array TypeId) (h : (ts.toList.all fun t => !Tryd.prog.wantsStandIn t) = true) (j : Nat) (t : TypeId) (ht : ts[j]? = some t) : Tryd.prog.wantsStandIn t = false := by
  have hm : t ∈ ts.toList := by
    obtain ⟨hlt, he⟩ := Array.getElem?_eq_some_iff.1 ht
    rw [← he]
    exact Array.getElem_mem_toList hlt
  have := List.all_eq_true.1 h t hm
  simpa using this

end Go.Proofs.YtanhhlekbdhfmaaDoor

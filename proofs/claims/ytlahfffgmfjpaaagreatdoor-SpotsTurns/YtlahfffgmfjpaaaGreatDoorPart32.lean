/-
  How what is asked for, and three tori, among a statement's arguments are opened.
-/
import Derived.Test.YtlahfffgmfjpaaaGreatDoorPart31
import Derived.Test.YtlahfffgmfjpaaaGreatDoorPart16
import Derived.ChangeSame
import Derived.ChangeArms
import Derived.Deep.Strs
import Derived.Test.YtlahfffgmfjpaaaGreatDoorPart26
import Derived.Test.YtlahfffgmfjpaaaGreatDoorRows
import Derived.ProofKit
import Derived.LaidMore
import Derived.OpenShut
import Derived.Stop.Joined
import Derived.Lib.LaidTab
import Derived.SevenTiedAt
namespace Go.Proofs.YtlahfffgmfjpaaaGreatDoor
open Go.ChangeShapes Go.WideShapes Go.ChangeAt Go.RowKit

theorem list7 {α : Type} (l : List α) (h : (⟨l⟩ : Array α).size = 7) : ∃ a b c d e f g, l = [a, b, c, d, e, f, g] := by
  match l, h with
  | [a, b, c, d, e, f, g], _ => exact ⟨a, b, c, d, e, f, g, rfl⟩

set_option maxRecDepth 100000 in
theorem open_bool3 {w : World} {H : Type} {enc : TypeId × Value → H} {r : Reach} {b0 base : Nat} {spare : Nat → Bool} {held : Bool} {v : Value} {d : DataW H} {p : List MemPlace}
    (hv : Value.okWide Tryz.prog w r b0 24 v) (h : DataW.Trod enc Tryz.prog w base spare held 24 v d p) : ∃ f g k : Bool, v = B3 f g k := by
  obtain ⟨cs, rfl, hsz, _⟩ : ∃ cs, v = .agg cs ∧ cs.size = Tryz.prog.cellsOf 24 ∧ Row.okWide Tryz.prog w r b0 24 cs := by
    simpa [Value.okWide, Tryz.underlying24] using hv
  have hct : Tryz.prog.cellsOf 24 = 3 := by kernel_rfl
  have hce : Tryz.prog.cellsOf 4 = 1 := by kernel_rfl
  rw [hct] at hsz
  obtain ⟨l⟩ := cs
  obtain ⟨c0, c1, c2, rfl⟩ := list3 l hsz
  obtain ⟨fuel, hf⟩ := h
  obtain ⟨y0, y1, y2, m, hx, hy0, hy1, hy2⟩ := trod_array3 Tryz.underlying24 hce hf
  obtain ⟨x0, e0, rfl⟩ := DataW.trod_bool Tryz.underlying4 hy0
  obtain ⟨x1, e1, rfl⟩ := DataW.trod_bool Tryz.underlying4 hy1
  obtain ⟨x2, e2, rfl⟩ := DataW.trod_bool Tryz.underlying4 hy2
  simp at e0 e1 e2
  subst e0 e1 e2
  exact ⟨x0, x1, x2, rfl⟩

set_option maxRecDepth 100000 in
theorem open_wants {w : World} {H : Type} {enc : TypeId × Value → H} {r : Reach} {b0 base : Nat} {spare : Nat → Bool} {held : Bool} {v : Value} {d : DataW H} {p : List MemPlace}
    (hv : Value.okWide Tryz.prog w r b0 26 v) (h : DataW.Trod enc Tryz.prog w base spare held 26 v d p) :
    ∃ (x y z : Int) (f g k t : Bool), v = V7 x y z f g k t ∧ (Lit.int .i64 x).wf = true ∧ (Lit.int .i64 y).wf = true ∧ (Lit.int .i64 z).wf = true := by
  obtain ⟨f0, f1, f2, hu, t0, o0, t1, o1, t2, o2⟩ : ∃ f0 f1 f2, Tryz.prog.underlying 26 = some (.struct #[f0, f1, f2]) ∧ f0.type = 22 ∧ f0.offset = 0 ∧ f1.type = 24 ∧ f1.offset = 3 ∧ f2.type = 4 ∧ f2.offset = 6 := ⟨_, _, _, rfl, rfl, rfl, rfl, rfl, rfl, rfl⟩
  obtain ⟨cs, rfl, hsz, _⟩ : ∃ cs, v = .agg cs ∧ cs.size = Tryz.prog.cellsOf 26 ∧ Row.okWide Tryz.prog w r b0 26 cs := by
    simpa [Value.okWide, hu] using hv
  have hct : Tryz.prog.cellsOf 26 = 7 := by kernel_rfl
  rw [hct] at hsz
  obtain ⟨l⟩ := cs
  obtain ⟨c0, c1, c2, c3, c4, c5, c6, rfl⟩ := list7 l hsz
  obtain ⟨fuel, hf⟩ := h
  obtain ⟨x0, x1, x2, n, _, _, h0, h1, h2⟩ := Go.Deep.trod_struct3 hu hf
  have hc3 : Tryz.prog.cellsOf 22 = 3 := by kernel_rfl
  have hc3' : Tryz.prog.cellsOf 24 = 3 := by kernel_rfl
  have hc1 : Tryz.prog.cellsOf 3 = 1 := by kernel_rfl
  have hc1' : Tryz.prog.cellsOf 4 = 1 := by kernel_rfl
  rw [t0, o0, hc3] at h0
  rw [t1, o1, hc3'] at h1
  rw [t2, o2, hc1'] at h2
  have h0 : DataW.trod enc Tryz.prog w base spare held n 22 [c0, c1, c2] = some x0 := h0
  have h1 : DataW.trod enc Tryz.prog w base spare held n 24 [c3, c4, c5] = some x1 := h1
  have h2 : DataW.trod enc Tryz.prog w base spare held n 4 [c6] = some x2 := h2
  obtain ⟨_, _, _, m, _, g0, g1, g2⟩ := trod_array3 Tryz.underlying22 hc1 h0
  obtain ⟨_, _, _, m', _, g3, g4, g5⟩ := trod_array3 Tryz.underlying24 hc1' h1
  obtain ⟨y0, e0, _, w0⟩ := DataW.trod_int Tryz.underlying3 g0
  obtain ⟨y1, e1, _, w1⟩ := DataW.trod_int Tryz.underlying3 g1
  obtain ⟨y2, e2, _, w2⟩ := DataW.trod_int Tryz.underlying3 g2
  obtain ⟨y3, e3, _⟩ := DataW.trod_bool Tryz.underlying4 g3
  obtain ⟨y4, e4, _⟩ := DataW.trod_bool Tryz.underlying4 g4
  obtain ⟨y5, e5, _⟩ := DataW.trod_bool Tryz.underlying4 g5
  obtain ⟨y6, e6, _⟩ := DataW.trod_bool Tryz.underlying4 h2
  simp at e0 e1 e2 e3 e4 e5 e6
  subst e0 e1 e2 e3 e4 e5 e6
  exact ⟨y0, y1, y2, y3, y4, y5, y6, rfl, w0, w1, w2⟩

end Go.Proofs.YtlahfffgmfjpaaaGreatDoor

/-
  What the statements that list turn's orders ask ahead of a walk: the orders lie in their variable, as the condition says.
-/
namespace Go.Proofs.YtlahfffgmfjpaaaGreatDoor
open Go Go.ChangeShapes Go.WideShapes Go.ChangeAt Go.RowKit

def ordLaid : List (String × DataW Unit) := [("tidehall/turn.orders", Rows.laid_tidehall_turn_orders)]

theorem ord_named : Tryz.prog.globalNamed "tidehall/turn.orders" = some 0 := by kernel_rfl
theorem ord_type : (Tryz.prog.globals[0]?).map (·.type) = some 105 := by kernel_rfl

/-- The heap that the program's own start leaves meets the condition. -/
theorem ord_met (os : Os) (args : Array Value) : laidMetH Tryz.prog ordLaid ((World.doorLaid Tryz.prog 20 os).forCall (fun _ _ => 0) ⟨#[], args, []⟩).memory :=
  laidMetH_of_parts3 (fuel := 8) (laidMet_of_run' 8 (by kernel_rfl) (by kernel_rfl)) (by kernel_rfl) (by kernel_rfl)

/-- A row of three numbers that reads as three known ones holds them. -/
theorem row_of {W : World} {fuel : Nat} {cs : List Value} {a b c : Int} {p : List MemPlace}
    (h : DataW.trod (fun _ => ()) Tryz.prog W 0 (fun _ => true) false fuel 22 cs = some (.agg [.lit (.int .i64 a), .lit (.int .i64 b), .lit (.int .i64 c)], p)) : cs = [.int .i64 a, .int .i64 b, .int .i64 c] :=
  Lib.cells_of_tab (zs := [a, b, c]) Tryz.underlying22 Tryz.underlying3 (by kernel_rfl) (by kernel_rfl) h

theorem ord_cells {W : World} {fuel : Nat} {cs : List Value} {p : List MemPlace} (h : DataW.trod (fun _ => ()) Tryz.prog W 0 (fun _ => true) false fuel 105 cs = some (Rows.laid_tidehall_turn_orders, p)) : cs = ordFlat.map (Value.int .i64) := by
  have hc3 : Tryz.prog.cellsOf 22 = 3 := by kernel_rfl
  have hc18 : Tryz.prog.cellsOf 105 = 18 := by kernel_rfl
  cases fuel with
  | zero => simp [DataW.trod] at h
  | succ fuel =>
    simp only [DataW.trod, Tryz.underlying105, hc3, hc18] at h
    split at h
    · rename_i hl
      obtain ⟨xs, hm, hx⟩ := Option.map_eq_some_iff.1 h
      have hd := congrArg Prod.fst hx
      simp only [Rows.laid_tidehall_turn_orders, DataW.agg.injEq] at hd
      have hget : ∀ i, i < 6 → ∃ d q, xs[i]? = some (d, q) ∧ DataW.trod (fun _ => ()) Tryz.prog W 0 (fun _ => true) false fuel 22 ((cs.drop (i * 3)).take 3) = some (d, q) := by
        intro i hi
        obtain ⟨b, hb, hf⟩ := Lib.mapM_at hm i i (by simp [hi])
        exact ⟨b.1, b.2, hb, hf⟩
      have s : ∀ n, (cs.drop n).take 3 ++ cs.drop (n + 3) = cs.drop n := fun n => by
        have := List.take_append_drop 3 (cs.drop n)
        rwa [List.drop_drop] at this
      have h15 : (cs.drop 15).take 3 = cs.drop 15 := List.take_of_length_le (by simp [hl])
      have e : cs = (cs.drop 0).take 3 ++ ((cs.drop 3).take 3 ++ ((cs.drop 6).take 3 ++ ((cs.drop 9).take 3 ++ ((cs.drop 12).take 3 ++ (cs.drop 15).take 3)))) := by
        rw [h15, s 12, s 9, s 6, s 3, s 0]; rfl
      have r0 : (cs.drop 0).take 3 = [.int .i64 0, .int .i64 1, .int .i64 2] := by
        obtain ⟨d, q, hx, hf⟩ := hget 0 (by omega)
        have := congrArg (fun l => l[0]?) hd
        simp only [List.getElem?_map, hx, Option.map_some, List.getElem?_cons_zero, Option.some.injEq] at this
        subst this
        exact row_of hf
      have r1 : (cs.drop 3).take 3 = [.int .i64 0, .int .i64 2, .int .i64 1] := by
        obtain ⟨d, q, hx, hf⟩ := hget 1 (by omega)
        have := congrArg (fun l => l[1]?) hd
        simp only [List.getElem?_map, hx, Option.map_some, List.getElem?_cons_zero, List.getElem?_cons_succ, Option.some.injEq] at this
        subst this
        exact row_of hf
      have r2 : (cs.drop 6).take 3 = [.int .i64 1, .int .i64 0, .int .i64 2] := by
        obtain ⟨d, q, hx, hf⟩ := hget 2 (by omega)
        have := congrArg (fun l => l[2]?) hd
        simp only [List.getElem?_map, hx, Option.map_some, List.getElem?_cons_zero, List.getElem?_cons_succ, Option.some.injEq] at this
        subst this
        exact row_of hf
      have r3 : (cs.drop 9).take 3 = [.int .i64 1, .int .i64 2, .int .i64 0] := by
        obtain ⟨d, q, hx, hf⟩ := hget 3 (by omega)
        have := congrArg (fun l => l[3]?) hd
        simp only [List.getElem?_map, hx, Option.map_some, List.getElem?_cons_zero, List.getElem?_cons_succ, Option.some.injEq] at this
        subst this
        exact row_of hf
      have r4 : (cs.drop 12).take 3 = [.int .i64 2, .int .i64 0, .int .i64 1] := by
        obtain ⟨d, q, hx, hf⟩ := hget 4 (by omega)
        have := congrArg (fun l => l[4]?) hd
        simp only [List.getElem?_map, hx, Option.map_some, List.getElem?_cons_zero, List.getElem?_cons_succ, Option.some.injEq] at this
        subst this
        exact row_of hf
      have r5 : (cs.drop 15).take 3 = [.int .i64 2, .int .i64 1, .int .i64 0] := by
        obtain ⟨d, q, hx, hf⟩ := hget 5 (by omega)
        have := congrArg (fun l => l[5]?) hd
        simp only [List.getElem?_map, hx, Option.map_some, List.getElem?_cons_zero, List.getElem?_cons_succ, Option.some.injEq] at this
        subst this
        exact row_of hf
      rw [e, r0, r1, r2, r3, r4, r5]
      rfl
    · cases h

theorem ord_of {W : World} (h : laidMetH Tryz.prog ordLaid W) : OrdOk W := by
  rw [MakeChecks.laidMetH_plain _ _ _ (by kernel_rfl)] at h
  obtain ⟨ps, ⟨g', t', cs, fuel, p, q, hg', ht', hvar, hd, _, _⟩, _⟩ := h
  obtain rfl := Option.some.inj (ord_named.symm.trans hg')
  obtain rfl := Option.some.inj (ord_type.symm.trans ht')
  have hc := ord_cells hd
  intro j hj
  have := World.var?_cell ord_named hvar j
  rw [this, ← Array.getElem?_toList, hc]
  have hl : j < ordFlat.length := hj
  simp [hl]

/-- No parameter's type asks for a stand-in. -/
theorem no_stand_in (ts : Array TypeId) (h : (ts.toList.all fun t => !Tryz.prog.wantsStandIn t) = true) (j : Nat) (t : TypeId) (ht : ts[j]? = some t) : Tryz.prog.wantsStandIn t = false := by
  have hm : t ∈ ts.toList := by
    obtain ⟨hlt, he⟩ := Array.getElem?_eq_some_iff.1 ht
    rw [← he]
    exact Array.getElem_mem_toList hlt
  have := List.all_eq_true.1 h t hm
  simpa using this

end Go.Proofs.YtlahfffgmfjpaaaGreatDoor

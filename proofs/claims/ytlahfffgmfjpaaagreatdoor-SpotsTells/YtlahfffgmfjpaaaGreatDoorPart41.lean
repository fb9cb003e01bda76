/-
  How the arguments of this seat's statements are opened: whole numbers, and rows of three of them.
-/
import Derived.Test.YtlahfffgmfjpaaaGreatDoorPart1
import Derived.Test.YtlahfffgmfjpaaaGreatDoorRows
import Derived.ProofKit
import Derived.OpenShut
import Derived.ChangeOld
import Derived.Below
import Derived.Laws.IdiomArrays
import Derived.Test.YtlahfffgmfjpaaaGreatDoorPart11
import Derived.ChangeSame
import Derived.ChangeArms
import Derived.Test.YtlahfffgmfjpaaaGreatDoorPart30
import Derived.ChangeSlices
import Derived.Test.YtlahfffgmfjpaaaGreatDoorPart16
import Derived.Deep.Strs
import Derived.Test.YtlahfffgmfjpaaaGreatDoorPart26
import Derived.LaidMore
import Derived.Stop.Joined
import Derived.Lib.LaidTab
import Derived.SevenTiedAt
namespace Go.Proofs.YtlahfffgmfjpaaaGreatDoor
open Go.ChangeShapes Go.WideShapes Go.ChangeAt Go.RowKit

theorem own : ownKnob Tryz.prog.godebug = none := by kernel_rfl
theorem laidOut : laidOutB Tryz.prog = true := by kernel_rfl

theorem list3 {α : Type} (l : List α) (h : (⟨l⟩ : Array α).size = 3) : ∃ a b c, l = [a, b, c] := by
  match l, h with
  | [a, b, c], _ => exact ⟨a, b, c, rfl⟩

/-- A row of three whole numbers, by value. -/
theorem open_arr3 {P : Program} {w : World} {H : Type} {enc : TypeId × Value → H} {r : Reach} {b0 base : Nat} {spare : Nat → Bool} {held : Bool} {t e : TypeId} {v : Value} {d : DataW H} {p : List MemPlace}
    (ht : P.underlying t = some (.array 3 e)) (he : P.underlying e = some (.int .i64)) (hce : P.cellsOf e = 1) (hct : P.cellsOf t = 3)
    (hv : Value.okWide P w r b0 t v) (h : DataW.Trod enc P w base spare held t v d p) :
    ∃ a b c : Int, v = A3 a b c ∧ (Lit.int .i64 a).wf = true ∧ (Lit.int .i64 b).wf = true ∧ (Lit.int .i64 c).wf = true := by
  obtain ⟨cs, rfl, hsz, _⟩ : ∃ cs, v = .agg cs ∧ cs.size = P.cellsOf t ∧ Row.okWide P w r b0 t cs := by
    simpa [Value.okWide, ht] using hv
  rw [hct] at hsz
  obtain ⟨l⟩ := cs
  obtain ⟨c0, c1, c2, rfl⟩ := list3 l hsz
  obtain ⟨fuel, hf⟩ := h
  obtain ⟨y0, y1, y2, m, hx, hy0, hy1, hy2⟩ := trod_array3 ht hce hf
  obtain ⟨x0, e0, rfl, w0⟩ := DataW.trod_int he hy0
  obtain ⟨x1, e1, rfl, w1⟩ := DataW.trod_int he hy1
  obtain ⟨x2, e2, rfl, w2⟩ := DataW.trod_int he hy2
  simp at e0 e1 e2
  subst e0 e1 e2
  exact ⟨x0, x1, x2, rfl, w0, w1, w2⟩

theorem trod_lt' {H : Type} {enc : TypeId × Value → H} {P : Program} {W : World} {t : TypeId} {v : Value} {d : DataW H} {ps : List MemPlace} {sp : Nat → Bool} (h : DataW.Trod enc P W 0 sp true t v d ps) : ∀ x ∈ ps, x.block < W.heap.size := by
  obtain ⟨m, hm⟩ := h; exact DataW.trod_lt m _ _ _ hm

end Go.Proofs.YtlahfffgmfjpaaaGreatDoor

/-
  How a place among a statement's arguments is opened: a box's six whole numbers, and three tori.
-/
namespace Go.Proofs.YtlahfffgmfjpaaaGreatDoor
open Go.ChangeShapes Go.WideShapes Go.ChangeAt Go.RowKit

theorem list9 {α : Type} (l : List α) (h : (⟨l⟩ : Array α).size = 9) : ∃ a b c d e f g i j, l = [a, b, c, d, e, f, g, i, j] := by
  match l, h with
  | [a, b, c, d, e, f, g, i, j], _ => exact ⟨a, b, c, d, e, f, g, i, j, rfl⟩

set_option maxRecDepth 100000 in
theorem open_place {w : World} {H : Type} {enc : TypeId × Value → H} {r : Reach} {b0 base : Nat} {spare : Nat → Bool} {held : Bool} {v : Value} {d : DataW H} {p : List MemPlace}
    (hv : Value.okWide Tryz.prog w r b0 32 v) (h : DataW.Trod enc Tryz.prog w base spare held 32 v d p) : ∃ (b : Bx) (t0 t1 t2 : Bool), v = P9 b t0 t1 t2 := by
  obtain ⟨f0, f1, hu, t0, o0, t1, o1⟩ : ∃ f0 f1, Tryz.prog.underlying 32 = some (.struct #[f0, f1]) ∧ f0.type = 30 ∧ f0.offset = 0 ∧ f1.type = 24 ∧ f1.offset = 6 := ⟨_, _, rfl, rfl, rfl, rfl, rfl⟩
  obtain ⟨s0, s1, hs, q0, r0, q1, r1⟩ : ∃ f0 f1, Tryz.prog.underlying 30 = some (.struct #[f0, f1]) ∧ f0.type = 22 ∧ f0.offset = 0 ∧ f1.type = 22 ∧ f1.offset = 3 := ⟨_, _, rfl, rfl, rfl, rfl, rfl⟩
  obtain ⟨cs, rfl, hsz, _⟩ : ∃ cs, v = .agg cs ∧ cs.size = Tryz.prog.cellsOf 32 ∧ Row.okWide Tryz.prog w r b0 32 cs := by
    simpa [Value.okWide, hu] using hv
  have hct : Tryz.prog.cellsOf 32 = 9 := by kernel_rfl
  rw [hct] at hsz
  obtain ⟨l⟩ := cs
  obtain ⟨c0, c1, c2, c3, c4, c5, c6, c7, c8, rfl⟩ := list9 l hsz
  obtain ⟨fuel, hf⟩ := h
  obtain ⟨x, y, n, _, _, h0, h1⟩ := trod_struct2 hu hf
  have hc6 : Tryz.prog.cellsOf 30 = 6 := by kernel_rfl
  have hc3 : Tryz.prog.cellsOf 22 = 3 := by kernel_rfl
  have hc3' : Tryz.prog.cellsOf 24 = 3 := by kernel_rfl
  have hc1 : Tryz.prog.cellsOf 3 = 1 := by kernel_rfl
  have hc1' : Tryz.prog.cellsOf 4 = 1 := by kernel_rfl
  rw [t0, o0, hc6] at h0
  rw [t1, o1, hc3'] at h1
  have h0 : DataW.trod enc Tryz.prog w base spare held n 30 [c0, c1, c2, c3, c4, c5] = some x := h0
  have h1 : DataW.trod enc Tryz.prog w base spare held n 24 [c6, c7, c8] = some y := h1
  obtain ⟨x', y', n', _, _, h2, h3⟩ := trod_struct2 hs h0
  rw [q0, r0, hc3] at h2
  rw [q1, r1, hc3] at h3
  have h2 : DataW.trod enc Tryz.prog w base spare held n' 22 [c0, c1, c2] = some x' := h2
  have h3 : DataW.trod enc Tryz.prog w base spare held n' 22 [c3, c4, c5] = some y' := h3
  obtain ⟨_, _, _, m, _, g0, g1, g2⟩ := trod_array3 Tryz.underlying22 hc1 h2
  obtain ⟨_, _, _, m', _, g3, g4, g5⟩ := trod_array3 Tryz.underlying22 hc1 h3
  obtain ⟨_, _, _, m'', _, g6, g7, g8⟩ := trod_array3 Tryz.underlying24 hc1' h1
  obtain ⟨x0, e0, _, _⟩ := DataW.trod_int Tryz.underlying3 g0
  obtain ⟨x1, e1, _, _⟩ := DataW.trod_int Tryz.underlying3 g1
  obtain ⟨x2, e2, _, _⟩ := DataW.trod_int Tryz.underlying3 g2
  obtain ⟨x3, e3, _, _⟩ := DataW.trod_int Tryz.underlying3 g3
  obtain ⟨x4, e4, _, _⟩ := DataW.trod_int Tryz.underlying3 g4
  obtain ⟨x5, e5, _, _⟩ := DataW.trod_int Tryz.underlying3 g5
  obtain ⟨y6, e6, _⟩ := DataW.trod_bool Tryz.underlying4 g6
  obtain ⟨y7, e7, _⟩ := DataW.trod_bool Tryz.underlying4 g7
  obtain ⟨y8, e8, _⟩ := DataW.trod_bool Tryz.underlying4 g8
  simp at e0 e1 e2 e3 e4 e5 e6 e7 e8
  subst e0 e1 e2 e3 e4 e5 e6 e7 e8
  exact ⟨⟨x0, x1, x2, x3, x4, x5⟩, y6, y7, y8, rfl⟩

end Go.Proofs.YtlahfffgmfjpaaaGreatDoor

/-
  How a set, and a list of whole numbers, among a statement's arguments is opened.
-/
namespace Go.Proofs.YtlahfffgmfjpaaaGreatDoor
open Go Go.ChangeShapes Go.WideShapes Go.ChangeAt Go.RowKit

theorem spot_none {w : World} {a : Addr} {v : Value} (h : w.cell? a = some v) : a.spot = none := by
  unfold World.cell? at h
  split at h
  · split at h
    · cases h
    · rename_i hs
      cases hq : a.spot
      · rfl
      · rw [hq] at hs; exact absurd rfl hs
  · cases h
theorem block_lt {w : World} {a : Addr} {v : Value} (h : w.cell? a = some v) : a.block < w.heap.size := by
  unfold World.cell? at h
  split at h
  · rename_i hs
    exact (Array.getElem?_eq_some_iff.1 hs).1
  · cases h

set_option maxRecDepth 100000 in
/-- A slice of numbers of one kind, as it came in. -/
theorem open_row_of {P : Program} {w : World} {H : Type} {enc : TypeId × Value → H} {r : Reach} {b0 base : Nat} {spare : Nat → Bool} {held : Bool} {t e : TypeId} {k : IntKind} {v : Value} {d : DataW H} {p : List MemPlace}
    (ht : P.underlying t = some (.slice e)) (he : P.underlying e = some (.int k)) (hc : P.cellsOf e = 1)
    (hv : Value.okWide P w r b0 t v) (h : DataW.Trod enc P w base spare held t v d p) :
    ∃ zs : List Int, (∀ z ∈ zs, (Lit.int k z).wf = true) ∧ Sl w v (zs.map (Value.int k)) ∧ (v = .slice none 0 0 ∧ zs = [] ∨ ∃ ad cap, v = .slice (some ad) zs.length cap) := by
  obtain ⟨a, len, cap, rfl⟩ := okWide_slice ht hv
  obtain ⟨fuel, hf⟩ := h
  rcases open_ints ht he hc hf with ⟨hcs, -⟩ | ⟨a0, len0, cap0, zs, hcs, _, hl, _, hz, _, hcell, hwf⟩
  · have e0 : Value.slice a len cap = .slice none 0 0 := by
      have : [Value.slice a len cap] = [.slice none 0 0] := hcs
      exact List.head_eq_of_cons_eq this
    rw [e0]
    exact ⟨[], fun _ h => (by cases h), Sl.nil w, .inl ⟨rfl, rfl⟩⟩
  · have e0 : Value.slice a len cap = .slice (some a0) len0 cap0 := by
      have : [Value.slice a len cap] = [.slice (some a0) len0 cap0] := hcs
      exact List.head_eq_of_cons_eq this
    rw [e0]
    have hlz : len0 ≤ zs.length := by rw [hz]; split <;> omega
    have hlt : (zs.take len0).length = len0 := by simp [hlz]
    refine ⟨zs.take len0, fun z hz' => hwf z (List.mem_of_mem_take hz'), ⟨some a0, cap0, by simp [hlz], fun i hi => ?_⟩, .inr ⟨a0, cap0, by rw [hlt]⟩⟩
    rw [List.length_map, hlt] at hi
    have hi2 : i < zs.length := by omega
    have c0 := hcell i hi2
    have cc := hcell 0 (by omega)
    obtain ⟨g, off, sp⟩ := a0
    have hs : sp = none := by
      have := spot_none cc
      simpa [Addr.add] using this
    subst hs
    have ea : (⟨g, off, none⟩ : Addr).add i = ⟨g, off + i, none⟩ := by
      unfold Addr.add
      split
      · rename_i h0; subst h0; rfl
      · rfl
    rw [ea] at c0
    exact ⟨g, off, rfl, block_lt c0, by rw [c0]; simp [hi, hi2]⟩

theorem word_of {z : Int} (h : (Lit.int .u64 z).wf = true) : 0 ≤ z ∧ z < 18446744073709551616 := by
  unfold Lit.wf at h
  simp [IntKind.min, IntKind.max, IntKind.signed, IntKind.bits] at h
  omega

set_option maxRecDepth 100000 in
theorem open_set {w : World} {H : Type} {enc : TypeId × Value → H} {r : Reach} {b0 base : Nat} {spare : Nat → Bool} {held : Bool} {v : Value} {d : DataW H} {p : List MemPlace}
    (hv : Value.okWide Tryz.prog w r b0 28 v) (h : DataW.Trod enc Tryz.prog w base spare held 28 v d p) : ∃ ws : List Nat, ArgW w v ws := by
  obtain ⟨zs, hw, hs, hc⟩ := open_row_of Tryz.underlying28 Tryz.underlying129 (by kernel_rfl) hv h
  have e : (zs.map Int.toNat).map U = zs.map (Value.int .u64) := by
    rw [List.map_map]
    apply List.map_congr_left
    intro z hz
    have := word_of (hw z hz)
    show Value.int .u64 ((z.toNat : Nat) : Int) = _
    rw [Int.toNat_of_nonneg this.1]
  refine ⟨zs.map Int.toNat, ⟨fun x hx => ?_, by rw [e]; exact hs⟩, ?_⟩
  · obtain ⟨z, hz, rfl⟩ := List.mem_map.1 hx
    have := word_of (hw z hz)
    omega
  · rcases hc with ⟨rfl, _⟩ | ⟨ad, cap, rfl⟩
    · exact .inl rfl
    · exact .inr ⟨ad, cap, by simp⟩

end Go.Proofs.YtlahfffgmfjpaaaGreatDoor

/-
  How what is asked for, and three tori, among a statement's arguments are opened.
-/
namespace Go.Proofs.YtlahfffgmfjpaaaGreatDoor
open Go.ChangeShapes Go.WideShapes Go.ChangeAt Go.RowKit

theorem list7 {α : Type} (l : List α) (h : (⟨l⟩ : Array α).size = 7) : ∃ a b c d e f g, l = [a, b, c, d, e, f, g] := by
  match l, h with
  | [a, b, c, d, e, f, g], _ => exact ⟨a, b, c, d, e, f, g, rfl⟩

set_option maxRecDepth 100000 in
theorem open_wants {w : World} {H : Type} {enc : TypeId × Value → H} {r : Reach} {b0 base : Nat} {spare : Nat → Bool} {held : Bool} {v : Value} {d : DataW H} {p : List MemPlace}
    (hv : Value.okWide Tryz.prog w r b0 26 v) (h : DataW.Trod enc Tryz.prog w base spare held 26 v d p) :
    ∃ (x y z : Int) (f g k t : Bool), v = V7 x y z f g k t ∧ (Lit.int .i64 x).wf = true ∧ (Lit.int .i64 y).wf = true ∧ (Lit.int .i64 z).wf = true := by
  obtain ⟨f0, f1, f2, hu, t0, o0, t1, o1, t2, o2⟩ : ∃ f0 f1 f2, Tryz.prog.underlying 26 = some (.struct #[f0, f1, f2]) ∧ f0.type = 22 ∧ f0.offset = 0 ∧ f1.type = 24 ∧ f1.offset = 3 ∧ f2.type = 4 ∧ f2.offset = 6 := ⟨_, _, _, rfl, rfl, rfl, rfl, rfl, rfl, rfl⟩
  obtain ⟨cs, rfl, hsz, _⟩ : ∃ cs, v = .agg cs ∧ cs.size = Tryz.prog.cellsOf 26 ∧ Row.okWide Tryz.prog w r b0 26 cs := by
    simpa [Value.okWide, hu] using hv
  have hct : Tryz.prog.cellsOf 26 = 7 := by kernel_rfl
  rw [hct] at hsz
  obtain ⟨l⟩ := cs
  obtain ⟨c0, c1, c2, c3, c4, c5, c6, rfl⟩ := list7 l hsz
  obtain ⟨fuel, hf⟩ := h
  obtain ⟨x0, x1, x2, n, _, _, h0, h1, h2⟩ := Go.Deep.trod_struct3 hu hf
  have hc3 : Tryz.prog.cellsOf 22 = 3 := by kernel_rfl
  have hc3' : Tryz.prog.cellsOf 24 = 3 := by kernel_rfl
  have hc1 : Tryz.prog.cellsOf 3 = 1 := by kernel_rfl
  have hc1' : Tryz.prog.cellsOf 4 = 1 := by kernel_rfl
  rw [t0, o0, hc3] at h0
  rw [t1, o1, hc3'] at h1
  rw [t2, o2, hc1'] at h2
  have h0 : DataW.trod enc Tryz.prog w base spare held n 22 [c0, c1, c2] = some x0 := h0
  have h1 : DataW.trod enc Tryz.prog w base spare held n 24 [c3, c4, c5] = some x1 := h1
  have h2 : DataW.trod enc Tryz.prog w base spare held n 4 [c6] = some x2 := h2
  obtain ⟨_, _, _, m, _, g0, g1, g2⟩ := trod_array3 Tryz.underlying22 hc1 h0
  obtain ⟨_, _, _, m', _, g3, g4, g5⟩ := trod_array3 Tryz.underlying24 hc1' h1
  obtain ⟨y0, e0, _, w0⟩ := DataW.trod_int Tryz.underlying3 g0
  obtain ⟨y1, e1, _, w1⟩ := DataW.trod_int Tryz.underlying3 g1
  obtain ⟨y2, e2, _, w2⟩ := DataW.trod_int Tryz.underlying3 g2
  obtain ⟨y3, e3, _⟩ := DataW.trod_bool Tryz.underlying4 g3
  obtain ⟨y4, e4, _⟩ := DataW.trod_bool Tryz.underlying4 g4
  obtain ⟨y5, e5, _⟩ := DataW.trod_bool Tryz.underlying4 g5
  obtain ⟨y6, e6, _⟩ := DataW.trod_bool Tryz.underlying4 h2
  simp at e0 e1 e2 e3 e4 e5 e6
  subst e0 e1 e2 e3 e4 e5 e6
  exact ⟨y0, y1, y2, y3, y4, y5, y6, rfl, w0, w1, w2⟩

end Go.Proofs.YtlahfffgmfjpaaaGreatDoor

/-
  What the statements that list turn's orders ask ahead of a walk: the orders lie in their variable, as the condition says.
-/
namespace Go.Proofs.YtlahfffgmfjpaaaGreatDoor
open Go Go.ChangeShapes Go.WideShapes Go.ChangeAt Go.RowKit

def ordLaid : List (String × DataW Unit) := [("tidehall/turn.orders", Rows.laid_tidehall_turn_orders)]

theorem ord_named : Tryz.prog.globalNamed "tidehall/turn.orders" = some 0 := by kernel_rfl
theorem ord_type : (Tryz.prog.globals[0]?).map (·.type) = some 105 := by kernel_rfl

/-- The heap that the program's own start leaves meets the condition. -/
theorem ord_met (os : Os) (args : Array Value) : laidMetH Tryz.prog ordLaid ((World.doorLaid Tryz.prog 20 os).forCall (fun _ _ => 0) ⟨#[], args, []⟩).memory :=
  laidMetH_of_parts3 (fuel := 8) (laidMet_of_run' 8 (by kernel_rfl) (by kernel_rfl)) (by kernel_rfl) (by kernel_rfl)

/-- A row of three numbers that reads as three known ones holds them. -/
theorem row_of {W : World} {fuel : Nat} {cs : List Value} {a b c : Int} {p : List MemPlace}
    (h : DataW.trod (fun _ => ()) Tryz.prog W 0 (fun _ => true) false fuel 22 cs = some (.agg [.lit (.int .i64 a), .lit (.int .i64 b), .lit (.int .i64 c)], p)) : cs = [.int .i64 a, .int .i64 b, .int .i64 c] :=
  Lib.cells_of_tab (zs := [a, b, c]) Tryz.underlying22 Tryz.underlying3 (by kernel_rfl) (by kernel_rfl) h

theorem ord_cells {W : World} {fuel : Nat} {cs : List Value} {p : List MemPlace} (h : DataW.trod (fun _ => ()) Tryz.prog W 0 (fun _ => true) false fuel 105 cs = some (Rows.laid_tidehall_turn_orders, p)) : cs = ordFlat.map (Value.int .i64) := by
  have hc3 : Tryz.prog.cellsOf 22 = 3 := by kernel_rfl
  have hc18 : Tryz.prog.cellsOf 105 = 18 := by kernel_rfl
  cases fuel with
  | zero => simp [DataW.trod] at h
  | succ fuel =>
    simp only [DataW.trod, Tryz.underlying105, hc3, hc18] at h
    split at h
    · rename_i hl
      obtain ⟨xs, hm, hx⟩ := Option.map_eq_some_iff.1 h
      have hd := congrArg Prod.fst hx
      simp only [Rows.laid_tidehall_turn_orders, DataW.agg.injEq] at hd
      have hget : ∀ i, i < 6 → ∃ d q, xs[i]? = some (d, q) ∧ DataW.trod (fun _ => ()) Tryz.prog W 0 (fun _ => true) false fuel 22 ((cs.drop (i * 3)).take 3) = some (d, q) := by
        intro i hi
        obtain ⟨b, hb, hf⟩ := Lib.mapM_at hm i i (by simp [hi])
        exact ⟨b.1, b.2, hb, hf⟩
      have s : ∀ n, (cs.drop n).take 3 ++ cs.drop (n + 3) = cs.drop n := fun n => by
        have := List.take_append_drop 3 (cs.drop n)
        rwa [List.drop_drop] at this
      have h15 : (cs.drop 15).take 3 = cs.drop 15 := List.take_of_length_le (by simp [hl])
      have e : cs = (cs.drop 0).take 3 ++ ((cs.drop 3).take 3 ++ ((cs.drop 6).take 3 ++ ((cs.drop 9).take 3 ++ ((cs.drop 12).take 3 ++ (cs.drop 15).take 3)))) := by
        rw [h15, s 12, s 9, s 6, s 3, s 0]; rfl
      have r0 : (cs.drop 0).take 3 = [.int .i64 0, .int .i64 1, .int .i64 2] := by
        obtain ⟨d, q, hx, hf⟩ := hget 0 (by omega)
        have := congrArg (fun l => l[0]?) hd
        simp only [List.getElem?_map, hx, Option.map_some, List.getElem?_cons_zero, Option.some.injEq] at this
        subst this
        exact row_of hf
      have r1 : (cs.drop 3).take 3 = [.int .i64 0, .int .i64 2, .int .i64 1] := by
        obtain ⟨d, q, hx, hf⟩ := hget 1 (by omega)
        have := congrArg (fun l => l[1]?) hd
        simp only [List.getElem?_map, hx, Option.map_some, List.getElem?_cons_zero, List.getElem?_cons_succ, Option.some.injEq] at this
        subst this
        exact row_of hf
      have r2 : (cs.drop 6).take 3 = [.int .i64 1, .int .i64 0, .int .i64 2] := by
        obtain ⟨d, q, hx, hf⟩ := hget 2 (by omega)
        have := congrArg (fun l => l[2]?) hd
        simp only [List.getElem?_map, hx, Option.map_some, List.getElem?_cons_zero, List.getElem?_cons_succ, Option.some.injEq] at this
        subst this
        exact row_of hf
      have r3 : (cs.drop 9).take 3 = [.int .i64 1, .int .i64 2, .int .i64 0] := by
        obtain ⟨d, q, hx, hf⟩ := hget 3 (by omega)
        have := congrArg (fun l => l[3]?) hd
        simp only [List.getElem?_map, hx, Option.map_some, List.getElem?_cons_zero, List.getElem?_cons_succ, Option.some.injEq] at this
        subst this
        exact row_of hf
      have r4 : (cs.drop 12).take 3 = [.int .i64 2, .int .i64 0, .int .i64 1] := by
        obtain ⟨d, q, hx, hf⟩ := hget 4 (by omega)
        have := congrArg (fun l => l[4]?) hd
        simp only [List.getElem?_map, hx, Option.map_some, List.getElem?_cons_zero, List.getElem?_cons_succ, Option.some.injEq] at this
        subst this
        exact row_of hf
      have r5 : (cs.drop 15).take 3 = [.int .i64 2, .int .i64 1, .int .i64 0] := by
        obtain ⟨d, q, hx, hf⟩ := hget 5 (by omega)
        have := congrArg (fun l => l[5]?) hd
        simp only [List.getElem?_map, hx, Option.map_some, List.getElem?_cons_zero, List.getElem?_cons_succ, Option.some.injEq] at this
        subst this
        exact row_of hf
      rw [e, r0, r1, r2, r3, r4, r5]
      rfl
    · cases h

theorem ord_of {W : World} (h : laidMetH Tryz.prog ordLaid W) : OrdOk W := by
  rw [MakeChecks.laidMetH_plain _ _ _ (by kernel_rfl)] at h
  obtain ⟨ps, ⟨g', t', cs, fuel, p, q, hg', ht', hvar, hd, _, _⟩, _⟩ := h
  obtain rfl := Option.some.inj (ord_named.symm.trans hg')
  obtain rfl := Option.some.inj (ord_type.symm.trans ht')
  have hc := ord_cells hd
  intro j hj
  have := World.var?_cell ord_named hvar j
  rw [this, ← Array.getElem?_toList, hc]
  have hl : j < ordFlat.length := hj
  simp [hl]

/-- No parameter's type asks for a stand-in. -/
theorem no_stand_in (ts : Array TypeId) (h : (ts.toList.all fun t => !Tryz.prog.wantsStandIn t) = true) (j : Nat) (t : TypeId) (ht : ts[j]? = some t) : Tryz.prog.wantsStandIn t = false := by
  have hm : t ∈ ts.toList := by
    obtain ⟨hlt, he⟩ := Array.getElem?_eq_some_iff.1 ht
    rw [← he]
    exact Array.getElem_mem_toList hlt
  have := List.all_eq_true.1 h t hm
  simpa using this

end Go.Proofs.YtlahfffgmfjpaaaGreatDoor

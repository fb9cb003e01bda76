/-
  The six orders, in the program's variable; what comes by each, gathered each once; the map that tells which were had.
-/
import Derived.Test.YtanhhlekbdhfmaaDoorTurnTurned
import Derived.Maps.OwnOps
import Derived.Maps.OwnSet
import Derived.Carry
namespace Go.Proofs.YtanhhlekbdhfmaaDoor
open Go Go.RowKit Go.Shelf Go.Maps

attribute [local go_sem] Oper.semAt_some ext_const eq_ints_at eq_bools_at eq_wants

/-- The variable that lists the orders holds them. -/
def ordFlat : List Int := [0, 1, 2, 0, 2, 1, 1, 0, 2, 1, 2, 0, 2, 0, 1, 2, 1, 0]
def OrdOk (W : World) : Prop := ∀ j, j < 18 → W.cell? ⟨0, j, none⟩ = some (.int .i64 (ordFlat.getD j 0))
theorem OrdOk.lt {W : World} (h : OrdOk W) : 0 < W.heap.size := by
  have := h 0 (by omega)
  unfold World.cell? at this
  split at this
  · rename_i hs
    exact (Array.getElem?_eq_some_iff.1 hs).1
  · cases this
theorem OrdOk.below {n : Nat} {W W' : World} (h : OrdOk W) (hb : Below n W W') (hn : 0 < n) : OrdOk W' := fun j hj => (hb.cell (p := ⟨0, j, none⟩) hn).trans (h j hj)
theorem OrdOk.later {W W' : World} (h : OrdOk W) (hb : Below W.heap.size W W') : OrdOk W' := h.below hb h.lt

theorem OrdOk.cells {W : World} (g : OrdOk W) : (0 < W.heap.size ∧ W.heap.size ≠ 0) ∧
    (W.cell? ⟨0, 0, none⟩ = some (.int .i64 0) ∧ W.cell? ⟨0, 1, none⟩ = some (.int .i64 1) ∧ W.cell? ⟨0, 2, none⟩ = some (.int .i64 2)) ∧ (W.cell? ⟨0, 3, none⟩ = some (.int .i64 0) ∧ W.cell? ⟨0, 4, none⟩ = some (.int .i64 2) ∧ W.cell? ⟨0, 5, none⟩ = some (.int .i64 1)) ∧
    (W.cell? ⟨0, 6, none⟩ = some (.int .i64 1) ∧ W.cell? ⟨0, 7, none⟩ = some (.int .i64 0) ∧ W.cell? ⟨0, 8, none⟩ = some (.int .i64 2)) ∧ (W.cell? ⟨0, 9, none⟩ = some (.int .i64 1) ∧ W.cell? ⟨0, 10, none⟩ = some (.int .i64 2) ∧ W.cell? ⟨0, 11, none⟩ = some (.int .i64 0)) ∧
    (W.cell? ⟨0, 12, none⟩ = some (.int .i64 2) ∧ W.cell? ⟨0, 13, none⟩ = some (.int .i64 0) ∧ W.cell? ⟨0, 14, none⟩ = some (.int .i64 1)) ∧ (W.cell? ⟨0, 15, none⟩ = some (.int .i64 2) ∧ W.cell? ⟨0, 16, none⟩ = some (.int .i64 1) ∧ W.cell? ⟨0, 17, none⟩ = some (.int .i64 0)) :=
  ⟨⟨g.lt, by have := g.lt; omega⟩, ⟨g 0 (by omega), g 1 (by omega), g 2 (by omega)⟩, ⟨g 3 (by omega), g 4 (by omega), g 5 (by omega)⟩, ⟨g 6 (by omega), g 7 (by omega), g 8 (by omega)⟩, ⟨g 9 (by omega), g 10 (by omega), g 11 (by omega)⟩, ⟨g 12 (by omega), g 13 (by omega), g 14 (by omega)⟩, ⟨g 15 (by omega), g 16 (by omega), g 17 (by omega)⟩⟩

def accT (w : Wt) : Nat → List Wt
  | 0 => []
  | k + 1 => if byOrd w k ∈ accT w k then accT w k else accT w k ++ [byOrd w k]
def rotsT (w : Wt) : List Wt := if turnT w then accT w 6 else [w]
theorem accT_len (w : Wt) : ∀ k, (accT w k).length ≤ k
  | 0 => Nat.le_refl _
  | k + 1 => by
    have := accT_len w k
    unfold accT
    split
    · omega
    · simp; omega
theorem accT_old {w : Wt} {k : Nat} (h : byOrd w k ∈ accT w k) : accT w (k + 1) = accT w k := by
  show (if byOrd w k ∈ accT w k then _ else _) = _
  rw [if_pos h]
theorem accT_new {w : Wt} {k : Nat} (h : byOrd w k ∉ accT w k) : accT w (k + 1) = accT w k ++ [byOrd w k] := by
  show (if byOrd w k ∈ accT w k then _ else _) = _
  rw [if_neg h]
theorem byOrd_may {w : Wt} (h : mayT w) (k : Nat) : mayT (byOrd w k) := by
  obtain ⟨x, y, z, p, q, r, t⟩ := w
  simp only [mayT] at h
  unfold byOrd ord
  split <;> simp only [mayT, selI] <;> omega
theorem accT_may {w : Wt} (h : mayT w) : ∀ k, ∀ x ∈ accT w k, mayT x
  | 0, x, hx => by cases hx
  | k + 1, x, hx => by
    unfold accT at hx
    split at hx
    · exact accT_may h k x hx
    · rcases List.mem_append.1 hx with hx | hx
      · exact accT_may h k x hx
      · rw [List.mem_singleton.1 hx]; exact byOrd_may h k

/-- The map has just the keys of ws. -/
def Keys (D : DataW Unit) (ws : List Wt) : Prop := ∀ u, mayT u → Maps.has D (keyW u) = decide (u ∈ ws)
theorem keys_none : Keys (.map []) [] := fun u _ => by simp [Maps.has]
theorem keys_put {D : DataW Unit} {ws : List Wt} {w : Wt} {d : DataW Unit} (h : Keys D ws) (hD : IsMap D) (hw : mayT w) : Keys (D.put (keyW w) d) (ws ++ [w]) := by
  intro u hu
  by_cases e : u = w
  · subst e
    obtain ⟨x, y, z, p, q, r, t⟩ := u
    rw [has_put_same hD (lawW.key (key_w hw))]
    simp
  · rw [has_put_other (fun k => e (keyW_inj hu hw k)), h u hu]
    simp [e]

abbrev ordV : Value := .agg #[.int .i64 0, .int .i64 1, .int .i64 2, .int .i64 0, .int .i64 2, .int .i64 1, .int .i64 1, .int .i64 0, .int .i64 2, .int .i64 1, .int .i64 2, .int .i64 0, .int .i64 2, .int .i64 0, .int .i64 1, .int .i64 2, .int .i64 1, .int .i64 0]
theorem ixo0 (w : World) : (Instr.index 55 ordV (.int .i64 0)).run Tryd.prog w = .ok (A3 0 1 2) w := by kernel_rfl
theorem ixo1 (w : World) : (Instr.index 55 ordV (.int .i64 1)).run Tryd.prog w = .ok (A3 0 2 1) w := by kernel_rfl
theorem ixo2 (w : World) : (Instr.index 55 ordV (.int .i64 2)).run Tryd.prog w = .ok (A3 1 0 2) w := by kernel_rfl
theorem ixo3 (w : World) : (Instr.index 55 ordV (.int .i64 3)).run Tryd.prog w = .ok (A3 1 2 0) w := by kernel_rfl
theorem ixo4 (w : World) : (Instr.index 55 ordV (.int .i64 4)).run Tryd.prog w = .ok (A3 2 0 1) w := by kernel_rfl
theorem ixo5 (w : World) : (Instr.index 55 ordV (.int .i64 5)).run Tryd.prog w = .ok (A3 2 1 0) w := by kernel_rfl

/-- What a round asks of its order. -/
theorem order_at (x y z : Int) (p q r t : Bool) {k : Nat} (hk : k < 6) : ∃ a b c x' y' z' p' q' r' t', byOrd (x, y, z, p, q, r, t) k = (x', y', z', p', q', r', t') ∧
    (∀ w, (Instr.index 55 ordV (.int .i64 (k : Int))).run Tryd.prog w = .ok (A3 a b c) w) ∧
    (∀ w, Calls Tryd.prog 28 #[V7 x y z p q r t, A3 a b c] w fun e W' => e = .returned (V7 x' y' z' p' q' r' t') ∧ Below w.heap.size w W') := by
  match k, hk with
  | 0, _ => exact ⟨_, _, _, _, _, _, _, _, _, _, rfl, ixo0, turned_0 x y z p q r t⟩
  | 1, _ => exact ⟨_, _, _, _, _, _, _, _, _, _, rfl, ixo1, turned_1 x y z p q r t⟩
  | 2, _ => exact ⟨_, _, _, _, _, _, _, _, _, _, rfl, ixo2, turned_2 x y z p q r t⟩
  | 3, _ => exact ⟨_, _, _, _, _, _, _, _, _, _, rfl, ixo3, turned_3 x y z p q r t⟩
  | 4, _ => exact ⟨_, _, _, _, _, _, _, _, _, _, rfl, ixo4, turned_4 x y z p q r t⟩
  | 5, _ => exact ⟨_, _, _, _, _, _, _, _, _, _, rfl, ixo5, turned_5 x y z p q r t⟩

theorem owns_later {H : Type} {P : Program} {k : TypeId} {R : Value → Option (DataW H × List MemPlace)} {w w' : World} {b n m : Nat} {D : DataW H} (h : w.ownsMap P k R b n D) (hb : Below m w w') (hm : b < m) : w'.ownsMap P k R b n D := by
  obtain ⟨es, clock, e, r⟩ := h
  exact ⟨es, clock, (hb.block b hm).trans e, r⟩

set_option maxRecDepth 100000 in
set_option maxHeartbeats 1000000 in
theorem rot_one {x y z : Int} {p q r : Bool} (w : World) :
    Calls Tryd.prog 19 #[V7 x y z p q r false] w fun e W' => ∃ v, e = .returned v ∧ Wl W' w.heap.size v [(x, y, z, p, q, r, false)] ∧ Below w.heap.size w W' := by
  have hB : Below w.heap.size w ((w.alloc (.cells (cells7 x y z p q r false) 29)).alloc (.cells (cells7 x y z p q r false) 29)) := ((Below.refl _ w).alloc (Nat.le_refl _) _).alloc (by simp) _
  have hO := Wl.one (w.alloc (.cells (cells7 x y z p q r false) 29)) w.heap.size (by simp) x y z p q r false
  have e1 : (w.alloc (.cells (cells7 x y z p q r false) 29)).heap.size = w.heap.size + 1 := by simp
  rw [e1] at hO
  clear e1
  have HO : Hid _ := hO
  clear hO
  go_enter Tryd.func19, Tryd.ntmps19
  go_wp2
  go_ret
  exact ⟨_, rfl, HO.out, hB⟩

theorem run_ord {W : World} (h : OrdOk W) : (Instr.loadAt 55 (.pointer (some ⟨0, 0, none⟩))).run Tryd.prog W = .ok ordV W := by
  obtain ⟨_, ⟨g0, g1, g2⟩, ⟨g3, g4, g5⟩, ⟨g6, g7, g8⟩, ⟨g9, g10, g11⟩, ⟨g12, g13, g14⟩, ⟨g15, g16, g17⟩⟩ := h.cells
  go_simp

/-- 'range orders': the variable is read whole. -/
theorem wpList_load_ord {ops : Array Oper} {rest : List Oper} {o : Oper} {a : Act} {Q : Exit → Act → World → Prop} {W : World} (hgd : o.guard = none) (ho : o.op = Op.load 55 (Operand.global 0)) (hO : OrdOk W)
    (h : wpList Tryd.prog ops Q rest (a.put o.dst ordV) W) : wpList Tryd.prog ops Q (o :: rest) a W := by
  refine wpList_plain hgd fun K hK => ?_
  have hrun := run_ord hO
  unfold Oper.wp
  simp [execOp, ho, Act.eval, hrun, Result.andThen]
  exact hK _ _ h

end Go.Proofs.YtanhhlekbdhfmaaDoor

/-
  What is asked for, as the program holds it: seven cells; '==' between two; lists of them in memory that a call made.
-/
import Derived.Test.YtanhhlekbdhfmaaDoorDraw
import Derived.Test.YtanhhlekbdhfmaaDoorProg
import Derived.Test.YtanhhlekbdhfmaaDoorTurnMath
import Derived.Test.YtanhhlekbdhfmaaDoorEqArr
import Derived.OwnWalk
import Derived.ChangeKeysEq
import Derived.Laws.StructEq
namespace Go.Proofs.YtanhhlekbdhfmaaDoor
open Go Go.RowKit Go.Shelf

abbrev V7 (x y z : Int) (p q r t : Bool) : Value := .agg #[.int .i64 x, .int .i64 y, .int .i64 z, .bool p, .bool q, .bool r, .bool t]
abbrev B3 (p q r : Bool) : Value := .agg #[.bool p, .bool q, .bool r]
def cellsW : Wt → List Value | (x, y, z, p, q, r, t) => [.int .i64 x, .int .i64 y, .int .i64 z, .bool p, .bool q, .bool r, .bool t]
theorem cellsW_len (w : Wt) : (cellsW w).length = 7 := by obtain ⟨x, y, z, p, q, r, t⟩ := w; rfl

/-- Two are the same. -/
def eqW (a b : Wt) : Bool := decide (a = b)
theorem eqW_self (a : Wt) : eqW a a = true := by simp [eqW]
def eqB (p q r p' q' r' : Bool) : Bool := p == p' && (q == q' && r == r')
def eqN (a b c a' b' c' : Int) : Bool := a == a' && (b == b' && c == c')
theorem eqB_self (p q r : Bool) : eqB p q r p q r = true := by simp [eqB]
theorem eqN_self (a b c : Int) : eqN a b c a b c = true := by simp [eqN]
theorem eqW_parts (x y z : Int) (p q r t : Bool) (x' y' z' : Int) (p' q' r' t' : Bool) :
    eqW (x, y, z, p, q, r, t) (x', y', z', p', q', r', t') = (eqN x y z x' y' z' && (eqB p q r p' q' r' && t == t')) := by
  rw [Bool.eq_iff_iff]
  simp only [eqW, eqN, eqB, Prod.mk.injEq, decide_eq_true_eq, Bool.and_eq_true, beq_iff_eq, and_assoc]

theorem eqIn_three {P : Program} (d : Nat) {t e : TypeId} {i : TypeInfo} (hu : P.underlying t = some (.array 3 e)) (hi : P.info? e = some i) (hc : P.cellsOf e = 1) (hp : P.plainKey e = true)
    (x y z x' y' z' : Value) (b0 b1 b2 : Bool) (h0 : ∀ w, (Op.equalIn (d + 1) e x x').run P w = .ok b0 w) (h1 : ∀ w, (Op.equalIn (d + 1) e y y').run P w = .ok b1 w) (h2 : ∀ w, (Op.equalIn (d + 1) e z z').run P w = .ok b2 w) (w : World) :
    (Op.equalIn (d + 2) t (.agg #[x, y, z]) (.agg #[x', y', z'])).run P w = .ok (b0 && (b1 && b2)) w := by
  rw [run_equalIn_array w (d + 1) _ _ hu hi, hc]
  have r3 : List.range 3 = [0, 1, 2] := rfl
  have p0 : ∀ (x y z : Value) (w : World), (part e #[x, y, z] 0).run P w = .ok x w := fun x y z w => run_part_plain w hp rfl
  have p1 : ∀ (x y z : Value) (w : World), (part e #[x, y, z] 1).run P w = .ok y w := fun x y z w => run_part_plain w hp rfl
  have p2 : ∀ (x y z : Value) (w : World), (part e #[x, y, z] 2).run P w = .ok z w := fun x y z w => run_part_plain w hp rfl
  rw [r3]
  cases b0 <;> cases b1 <;> cases b2 <;> simp [Op.eqItems, p0, p1, p2, h0, h1, h2]

theorem eq_ints (d : Nat) (a b c a' b' c' : Int) (w : World) : (Op.equalIn (d + 2) 26 (.agg #[.int .i64 a, .int .i64 b, .int .i64 c]) (.agg #[.int .i64 a', .int .i64 b', .int .i64 c'])).run Tryd.prog w = .ok (eqN a b c a' b' c') w := by
  obtain ⟨i, hi⟩ : ∃ i, Tryd.prog.info? 3 = some i := ⟨_, rfl⟩
  exact eqIn_three d Tryd.underlying26 hi (by kernel_rfl) (by kernel_rfl) _ _ _ _ _ _ _ _ _ (fun w => run_equalIn_int w d _ .i64 .i64 _ _ Tryd.underlying3) (fun w => run_equalIn_int w d _ .i64 .i64 _ _ Tryd.underlying3) (fun w => run_equalIn_int w d _ .i64 .i64 _ _ Tryd.underlying3) w
theorem eq_bools (d : Nat) (a b c a' b' c' : Bool) (w : World) : (Op.equalIn (d + 2) 27 (.agg #[.bool a, .bool b, .bool c]) (.agg #[.bool a', .bool b', .bool c'])).run Tryd.prog w = .ok (eqB a b c a' b' c') w := by
  obtain ⟨i, hi⟩ : ∃ i, Tryd.prog.info? 4 = some i := ⟨_, rfl⟩
  exact eqIn_three d Tryd.underlying27 hi (by kernel_rfl) (by kernel_rfl) _ _ _ _ _ _ _ _ _ (fun w => run_equalIn_bool w d _ _ _ Tryd.underlying4) (fun w => run_equalIn_bool w d _ _ _ Tryd.underlying4) (fun w => run_equalIn_bool w d _ _ _ Tryd.underlying4) w
theorem eq_ints_at (a b c a' b' c' : Int) (w : World) : (Op.equalIn 10000 26 (.agg #[.int .i64 a, .int .i64 b, .int .i64 c]) (.agg #[.int .i64 a', .int .i64 b', .int .i64 c'])).run Tryd.prog w = .ok (eqN a b c a' b' c') w := eq_ints 9998 a b c a' b' c' w
theorem eq_bools_at (a b c a' b' c' : Bool) (w : World) : (Op.equalIn 10000 27 (.agg #[.bool a, .bool b, .bool c]) (.agg #[.bool a', .bool b', .bool c'])).run Tryd.prog w = .ok (eqB a b c a' b' c') w := eq_bools 9998 a b c a' b' c' w

set_option maxRecDepth 100000 in
theorem eq_wants (x y z : Int) (p q r t : Bool) (x' y' z' : Int) (p' q' r' t' : Bool) (w : World) : (Op.equalIn 10000 29 (V7 x y z p q r t) (V7 x' y' z' p' q' r' t')).run Tryd.prog w = .ok (eqW (x, y, z, p, q, r, t) (x', y', z', p', q', r', t')) w := by
  have e1 := eq_ints 9997 x y z x' y' z'
  have e2 := eq_bools 9997 p q r p' q' r'
  have e3 := fun w => run_equalIn_bool (P := Tryd.prog) w 9998 4 t t' Tryd.underlying4
  rw [eqW_parts, run_equalIn_struct (P := Tryd.prog) w 9999 29 _ _ (by kernel_rfl) (by kernel_rfl)]
  generalize eqN x y z x' y' z' = b0 at *
  generalize eqB p q r p' q' r' = b1 at *
  generalize (t == t') = b2 at *
  cases b0 <;> cases b1 <;> cases b2 <;> go_simp

end Go.Proofs.YtanhhlekbdhfmaaDoor

/-
  '==' between two boxes: as their numbers are.
-/
import Derived.Test.YthakcjpipcmogaaEqArr
import Derived.Test.YthakcjpipcmogaaBoxMath
import Derived.Laws.StructEq
namespace Go.Proofs.Ythakcjpipcmogaa
open Go.RowKit

theorem eqIn_arr3_at {P : Program} (d : Nat) {t e : TypeId} {i : TypeInfo} (hu : P.underlying t = some (.array 3 e)) (he : P.underlying e = some (.int .i64)) (hi : P.info? e = some i) (hc : P.cellsOf e = 1) (hp : P.plainKey e = true)
    (a b c a' b' c' : Int) (w : World) : (Op.equalIn (d + 2) t (.agg #[.int .i64 a, .int .i64 b, .int .i64 c]) (.agg #[.int .i64 a', .int .i64 b', .int .i64 c'])).run P w = .ok (a == a' && (b == b' && c == c')) w := by
  rw [run_equalIn_array w (d + 1) _ _ hu hi, hc]
  have r3 : List.range 3 = [0, 1, 2] := rfl
  have p0 : ∀ (x y z : Value) (w : World), (part e #[x, y, z] 0).run P w = .ok x w := fun x y z w => run_part_plain w hp rfl
  have p1 : ∀ (x y z : Value) (w : World), (part e #[x, y, z] 1).run P w = .ok y w := fun x y z w => run_part_plain w hp rfl
  have p2 : ∀ (x y z : Value) (w : World), (part e #[x, y, z] 2).run P w = .ok z w := fun x y z w => run_part_plain w hp rfl
  have hq : ∀ (x y : Int) (w : World), (Op.equalIn (d + 1) e (.int .i64 x) (.int .i64 y)).run P w = .ok (x == y) w := fun x y w => run_equalIn_int w d e .i64 .i64 x y he
  rw [r3]
  by_cases h0 : a = a' <;> by_cases h1 : b = b' <;> by_cases h2 : c = c' <;> simp [Op.eqItems, p0, p1, p2, hq, h0, h1, h2]

def sameBx (a b : Bx) : Bool := a.x == b.x && (a.y == b.y && a.z == b.z) && (a.a == b.a && (a.b == b.b && a.c == b.c))
theorem sameBx_iff (a b : Bx) : sameBx a b = true ↔ a = b := by
  cases a; cases b; simp [sameBx, and_assoc]
theorem sameBx_self (a : Bx) : sameBx a a = true := (sameBx_iff a a).2 rfl

theorem eq_box (a b : Bx) (w : World) : (Op.equalIn 10000 24 (B6 a) (B6 b)).run Try.prog w = .ok (sameBx a b) w := by
  obtain ⟨i, hi⟩ : ∃ i, Try.prog.info? 3 = some i := ⟨_, rfl⟩
  have E : ∀ (x y z x' y' z' : Int) (w : World), (Op.equalIn 9999 22 (.agg #[.int .i64 x, .int .i64 y, .int .i64 z]) (.agg #[.int .i64 x', .int .i64 y', .int .i64 z'])).run Try.prog w = .ok (x == x' && (y == y' && z == z')) w := fun x y z x' y' z' w => eqIn_arr3_at 9997 Try.underlying22 Try.underlying3 hi (by kernel_rfl) (by kernel_rfl) x y z x' y' z' w
  have p0 : ∀ (a : Bx) (w : World), (part 22 #[.int .i64 a.x, .int .i64 a.y, .int .i64 a.z, .int .i64 a.a, .int .i64 a.b, .int .i64 a.c] 0).run Try.prog w = .ok (.agg #[.int .i64 a.x, .int .i64 a.y, .int .i64 a.z]) w := fun a w => by kernel_rfl
  have p1 : ∀ (a : Bx) (w : World), (part 22 #[.int .i64 a.x, .int .i64 a.y, .int .i64 a.z, .int .i64 a.a, .int .i64 a.b, .int .i64 a.c] 3).run Try.prog w = .ok (.agg #[.int .i64 a.a, .int .i64 a.b, .int .i64 a.c]) w := fun a w => by kernel_rfl
  obtain ⟨f0, f1, hf, n0, t0, o0, n1, t1, o1⟩ : ∃ f0 f1, (Try.prog.fieldsOf 24).toList = [f0, f1] ∧ f0.name ≠ "_" ∧ f0.type = 22 ∧ f0.offset = 0 ∧ f1.name ≠ "_" ∧ f1.type = 22 ∧ f1.offset = 3 :=
    ⟨_, _, rfl, of_decide_eq_true (by kernel_rfl), rfl, rfl, of_decide_eq_true (by kernel_rfl), rfl, rfl⟩
  rw [run_equalIn_struct w 9999 24 _ _ (by kernel_rfl) (by kernel_rfl), hf]
  simp only [Op.eqFields, n0, n1, t0, t1, o0, o1, ne_eq, not_false_eq_true, if_true, Sem.run_bind, p0, Result.andThen_ok, E]
  unfold sameBx
  cases a.x == b.x && (a.y == b.y && a.z == b.z)
  · simp
  · simp only [Bool.not_true, Bool.false_eq_true, if_false, Sem.run_bind, p1, Result.andThen_ok, E]
    cases a.a == b.a && (a.b == b.b && a.c == b.c) <;> simp

theorem eq_arr9 (a b c a' b' c' : Int) (w : World) : (Op.equalIn 9999 22 (.agg #[.int .i64 a, .int .i64 b, .int .i64 c]) (.agg #[.int .i64 a', .int .i64 b', .int .i64 c'])).run Try.prog w = .ok (a == a' && (b == b' && c == c')) w := by
  obtain ⟨i, hi⟩ : ∃ i, Try.prog.info? 3 = some i := ⟨_, rfl⟩
  exact eqIn_arr3_at 9997 Try.underlying22 Try.underlying3 hi (by kernel_rfl) (by kernel_rfl) a b c a' b' c' w

end Go.Proofs.Ythakcjpipcmogaa

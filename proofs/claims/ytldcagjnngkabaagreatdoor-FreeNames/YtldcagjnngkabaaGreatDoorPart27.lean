/-
  Boxes that wrap, as plain arithmetic: sides on a ring, the midplanes of a box, when two meet, when one lies in another, when they are the same.
-/
import Derived.Test.YtldcagjnngkabaaGreatDoorPart1
import Derived.Test.YtldcagjnngkabaaGreatDoorPart19
import Derived.Test.YtldcagjnngkabaaGreatDoorPart18
namespace Go.Proofs.YtldcagjnngkabaaGreatDoor

/-- A box: where it begins, and how much it has along each axis. -/
structure Bx where
  x : Int
  y : Int
  z : Int
  a : Int
  b : Int
  c : Int
abbrev B6 (b : Bx) : Value := .agg #[.int .i64 b.x, .int .i64 b.y, .int .i64 b.z, .int .i64 b.a, .int .i64 b.b, .int .i64 b.c]

/-- A side: ring r, beginning at b, s of it. -/
def mayS (r b s : Int) : Prop := (1 ≤ s ∧ s ≤ r) ∧ (0 ≤ b ∧ b < r)
def maySB (r b s : Int) : Bool := decide (1 ≤ s) && (decide (s ≤ r) && (decide (0 ≤ b) && decide (b < r)))
theorem maySB_iff (r b s : Int) : maySB r b s = true ↔ mayS r b s := by simp [maySB, mayS, and_assoc]
def aft (r b k : Int) : Int := if b ≤ k then k - b else k - b + r
def hasS (r b s k : Int) : Bool := decide (aft r b k < s)
def meetS (r b s b' s' : Int) : Bool := hasS r b s b' || hasS r b' s' b
def inS (r b s b' s' : Int) : Bool := s' == r || decide (aft r b' b + s ≤ s')

theorem aft_bd {r b k : Int} (hb : 0 ≤ b ∧ b < r) (hk : 0 ≤ k ∧ k < r) : 0 ≤ aft r b k ∧ aft r b k < r := by unfold aft; split <;> omega
theorem aft_rem {r b k : Int} (hb : 0 ≤ b ∧ b < r) (hk : 0 ≤ k ∧ k < r) : (k - b + r) % r = aft r b k := by
  unfold aft
  split
  · rw [Int.add_emod_right, Int.emod_eq_of_lt (by omega) (by omega)]
  · rw [Int.emod_eq_of_lt (by omega) (by omega)]
theorem on_rem {r b k : Int} (hb : 0 ≤ b ∧ b < r) (hk : 0 ≤ k ∧ k < r) : (b + k) % r = if b + k < r then b + k else b + k - r := by
  split
  · rw [Int.emod_eq_of_lt (by omega) (by omega)]
  · rw [show b + k = (b + k - r) + r by omega, Int.add_emod_right, Int.emod_eq_of_lt (by omega) (by omega)]; omega

/-- What a side has, a step after another. -/
theorem hasS_iff {r b s k : Int} (h : mayS r b s) (hk : 0 ≤ k ∧ k < r) : hasS r b s k = true ↔ ∃ j, 0 ≤ j ∧ j < s ∧ (b + j) % r = k := by
  obtain ⟨⟨h1, h2⟩, h3, h4⟩ := h
  simp only [hasS, decide_eq_true_eq]
  constructor
  · intro ha
    refine ⟨aft r b k, (aft_bd ⟨h3, h4⟩ hk).1, ha, ?_⟩
    rw [on_rem ⟨h3, h4⟩ (aft_bd ⟨h3, h4⟩ hk)]
    unfold aft
    split <;> split <;> omega
  · rintro ⟨j, j0, j1, hj⟩
    rw [on_rem ⟨h3, h4⟩ ⟨j0, by omega⟩] at hj
    unfold aft
    split at hj <;> split <;> omega
theorem hasS_base {r b s : Int} (h : mayS r b s) : hasS r b s b = true := by
  obtain ⟨⟨h1, h2⟩, h3, h4⟩ := h
  simp [hasS, aft]; omega

theorem meetS_iff {r b s b' s' : Int} (h : mayS r b s) (h' : mayS r b' s') : meetS r b s b' s' = true ↔ ∃ k, (0 ≤ k ∧ k < r) ∧ hasS r b s k = true ∧ hasS r b' s' k = true := by
  have H := h
  have H' := h'
  obtain ⟨⟨h1, h2⟩, h3, h4⟩ := h
  obtain ⟨⟨g1, g2⟩, g3, g4⟩ := h'
  constructor
  · intro hm
    simp only [meetS, Bool.or_eq_true] at hm
    rcases hm with hm | hm
    · exact ⟨b', ⟨g3, g4⟩, hm, hasS_base H'⟩
    · exact ⟨b, ⟨h3, h4⟩, hasS_base H, hm⟩
  · rintro ⟨k, ⟨k0, k1⟩, ha, hb⟩
    simp only [meetS, hasS, Bool.or_eq_true, decide_eq_true_eq] at ha hb ⊢
    unfold aft at ha hb ⊢
    split at ha <;> split at hb <;> (split <;> split <;> omega)
theorem inS_iff {r b s b' s' : Int} (h : mayS r b s) (h' : mayS r b' s') : inS r b s b' s' = true ↔ ∀ k, (0 ≤ k ∧ k < r) → hasS r b s k = true → hasS r b' s' k = true := by
  obtain ⟨⟨h1, h2⟩, h3, h4⟩ := h
  obtain ⟨⟨g1, g2⟩, g3, g4⟩ := h'
  simp only [inS, hasS, Bool.or_eq_true, beq_iff_eq, decide_eq_true_eq]
  constructor
  · rintro hc k ⟨k0, k1⟩ ha
    unfold aft at ha hc ⊢
    split at ha <;> split at hc <;> split <;> omega
  · intro hall
    by_cases he : s' = r
    · exact .inl he
    · refine .inr ?_
      have h0 := hall b ⟨h3, h4⟩ (by unfold aft; split <;> omega)
      -- the coordinate behind the other side's last one
      have h2' := hall (if b' + s' < r then b' + s' else b' + s' - r) (by split <;> omega)
      unfold aft at h0 h2' ⊢
      split at h0 <;> split at h2' <;> split at h2' <;> split at h2' <;> (try split) <;> omega
theorem sameS_iff {r b s b' s' : Int} (h : mayS r b s) (h' : mayS r b' s') : (inS r b s b' s' = true ∧ inS r b' s' b s = true) ↔ s = s' ∧ (s = r ∨ b = b') := by
  obtain ⟨⟨h1, h2⟩, h3, h4⟩ := h
  obtain ⟨⟨g1, g2⟩, g3, g4⟩ := h'
  simp only [inS, Bool.or_eq_true, beq_iff_eq, decide_eq_true_eq]
  unfold aft
  constructor
  · rintro ⟨hx, hy⟩
    split at hx <;> split at hy <;> omega
  · rintro ⟨rfl, hx⟩
    split <;> split <;> omega
theorem meetS_sym (r b s b' s' : Int) : meetS r b s b' s' = meetS r b' s' b s := by simp [meetS, Bool.or_comm]
theorem inS_meetS {r b s b' s' : Int} (h : mayS r b s) (h' : mayS r b' s') (hi : inS r b s b' s' = true) : meetS r b s b' s' = true :=
  (meetS_iff h h').2 ⟨b, h.2, hasS_base h, (inS_iff h h').1 hi b h.2 (hasS_base h)⟩
theorem inS_size {r b s b' s' : Int} (h : mayS r b s) (h' : mayS r b' s') (hi : inS r b s b' s' = true) : s ≤ s' := by
  obtain ⟨⟨h1, h2⟩, h3, h4⟩ := h
  obtain ⟨⟨g1, g2⟩, g3, g4⟩ := h'
  simp only [inS, Bool.or_eq_true, beq_iff_eq, decide_eq_true_eq] at hi
  have := (aft_bd (r := r) (b := b') (k := b) ⟨g3, g4⟩ ⟨h3, h4⟩).1
  omega

def okDB (d0 d1 d2 : Int) : Bool := decide (1 ≤ d0) && decide (d0 ≤ 16) && (decide (1 ≤ d1) && decide (d1 ≤ 16)) && (decide (1 ≤ d2) && decide (d2 ≤ 16))
theorem okDB_iff (d0 d1 d2 : Int) : okDB d0 d1 d2 = true ↔ mayD d0 d1 d2 := by simp [okDB, mayD, okD, and_assoc]

/-- A box may be. -/
def mayB (d0 d1 d2 : Int) (b : Bx) : Prop := mayS d0 b.x b.a ∧ mayS d1 b.y b.b ∧ mayS d2 b.z b.c
def mayBB (d0 d1 d2 : Int) (b : Bx) : Bool := maySB d0 b.x b.a && maySB d1 b.y b.b && maySB d2 b.z b.c
theorem mayBB_iff (d0 d1 d2 : Int) (b : Bx) : mayBB d0 d1 d2 b = true ↔ mayB d0 d1 d2 b := by simp [mayBB, mayB, maySB_iff, and_assoc]
theorem mayBB_no {d0 d1 d2 : Int} {b : Bx} (h : ¬ mayB d0 d1 d2 b) : mayBB d0 d1 d2 b = false := by
  rw [← Bool.not_eq_true, mayBB_iff]; exact h

abbrev bAt (b : Bx) (k : Fin 3) : Int := dimAt b.x b.y b.z k
abbrev sAt (b : Bx) (k : Fin 3) : Int := dimAt b.a b.b b.c k
theorem mayB_at {d0 d1 d2 : Int} {b : Bx} (h : mayB d0 d1 d2 b) (k : Fin 3) : mayS (dimAt d0 d1 d2 k) (bAt b k) (sAt b k) := by
  match k with
  | 0 => exact h.1
  | 1 => exact h.2.1
  | 2 => exact h.2.2

def canonB (d0 d1 d2 : Int) (b : Bx) : Bx := ⟨if b.a = d0 then 0 else b.x, if b.b = d1 then 0 else b.y, if b.c = d2 then 0 else b.z, b.a, b.b, b.c⟩
theorem canon_may {d0 d1 d2 : Int} {b : Bx} (h : mayB d0 d1 d2 b) : mayB d0 d1 d2 (canonB d0 d1 d2 b) := by
  obtain ⟨⟨⟨h1, h2⟩, h3, h4⟩, ⟨⟨g1, g2⟩, g3, g4⟩, ⟨⟨k1, k2⟩, k3, k4⟩⟩ := h
  simp only [mayB, mayS, canonB]
  refine ⟨⟨⟨h1, h2⟩, ?_⟩, ⟨⟨g1, g2⟩, ?_⟩, ⟨⟨k1, k2⟩, ?_⟩⟩ <;> split <;> omega
theorem canon_canon (d0 d1 d2 : Int) (b : Bx) : canonB d0 d1 d2 (canonB d0 d1 d2 b) = canonB d0 d1 d2 b := by
  simp only [canonB, Bx.mk.injEq, and_true]
  refine ⟨?_, ?_, ?_⟩ <;> split <;> simp_all

def hasB (d0 d1 d2 : Int) (b : Bx) (m : Int) : Bool := hasS d0 b.x b.a (cx d0 m) && hasS d1 b.y b.b (cy d0 d1 m) && hasS d2 b.z b.c (cz d0 d1 m)
def meetB (d0 d1 d2 : Int) (a b : Bx) : Bool := meetS d0 a.x a.a b.x b.a && meetS d1 a.y a.b b.y b.b && meetS d2 a.z a.c b.z b.c
def inB (d0 d1 d2 : Int) (a b : Bx) : Bool := inS d0 a.x a.a b.x b.a && inS d1 a.y a.b b.y b.b && inS d2 a.z a.c b.z b.c

theorem hasB_num {d0 d1 d2 p q r : Int} {b : Bx} (h : mayD d0 d1 d2) (hp : inD d0 d1 d2 p q r) : hasB d0 d1 d2 b (numD d0 d1 p q r) = (hasS d0 b.x b.a p && hasS d1 b.y b.b q && hasS d2 b.z b.c r) := by
  obtain ⟨_, hx, hy, hz⟩ := node_of_in h hp
  rw [hasB, hx, hy, hz]

theorem meetB_iff {d0 d1 d2 : Int} {a b : Bx} (h : mayD d0 d1 d2) (ha : mayB d0 d1 d2 a) (hb : mayB d0 d1 d2 b) :
    meetB d0 d1 d2 a b = true ↔ ∃ m, (0 ≤ m ∧ m < d0 * d1 * d2) ∧ hasB d0 d1 d2 a m = true ∧ hasB d0 d1 d2 b m = true := by
  simp only [meetB, Bool.and_eq_true]
  rw [meetS_iff ha.1 hb.1, meetS_iff ha.2.1 hb.2.1, meetS_iff ha.2.2 hb.2.2]
  constructor
  · rintro ⟨⟨⟨p, hp, p1, p2⟩, q, hq, q1, q2⟩, r, hr, r1, r2⟩
    refine ⟨numD d0 d1 p q r, (node_of_in h ⟨hp, hq, hr⟩).1, ?_, ?_⟩
    · rw [hasB_num h ⟨hp, hq, hr⟩, p1, q1, r1]; rfl
    · rw [hasB_num h ⟨hp, hq, hr⟩, p2, q2, r2]; rfl
  · rintro ⟨m, hm, h1, h2⟩
    simp only [hasB, Bool.and_eq_true] at h1 h2
    obtain ⟨i0, i1, i2⟩ := inD_of_node h hm
    exact ⟨⟨⟨_, i0, h1.1.1, h2.1.1⟩, _, i1, h1.1.2, h2.1.2⟩, _, i2, h1.2, h2.2⟩

theorem inB_iff {d0 d1 d2 : Int} {a b : Bx} (h : mayD d0 d1 d2) (ha : mayB d0 d1 d2 a) (hb : mayB d0 d1 d2 b) :
    inB d0 d1 d2 a b = true ↔ ∀ m, (0 ≤ m ∧ m < d0 * d1 * d2) → hasB d0 d1 d2 a m = true → hasB d0 d1 d2 b m = true := by
  simp only [inB, Bool.and_eq_true]
  rw [inS_iff ha.1 hb.1, inS_iff ha.2.1 hb.2.1, inS_iff ha.2.2 hb.2.2]
  constructor
  · rintro ⟨⟨f0, f1⟩, f2⟩ m hm h1
    simp only [hasB, Bool.and_eq_true] at h1 ⊢
    obtain ⟨i0, i1, i2⟩ := inD_of_node h hm
    exact ⟨⟨f0 _ i0 h1.1.1, f1 _ i1 h1.1.2⟩, f2 _ i2 h1.2⟩
  · intro f
    have key : ∀ p q r, inD d0 d1 d2 p q r → hasS d0 a.x a.a p = true → hasS d1 a.y a.b q = true → hasS d2 a.z a.c r = true → hasS d0 b.x b.a p = true ∧ hasS d1 b.y b.b q = true ∧ hasS d2 b.z b.c r = true := by
      intro p q r hi h1 h2 h3
      have := f (numD d0 d1 p q r) (node_of_in h hi).1 (by rw [hasB_num h hi, h1, h2, h3]; rfl)
      rw [hasB_num h hi] at this
      simp only [Bool.and_eq_true] at this
      exact ⟨this.1.1, this.1.2, this.2⟩
    refine ⟨⟨fun k hk hx => ?_, fun k hk hx => ?_⟩, fun k hk hx => ?_⟩
    · exact (key k a.y a.z ⟨hk, ha.2.1.2, ha.2.2.2⟩ hx (hasS_base ha.2.1) (hasS_base ha.2.2)).1
    · exact (key a.x k a.z ⟨ha.1.2, hk, ha.2.2.2⟩ (hasS_base ha.1) hx (hasS_base ha.2.2)).2.1
    · exact (key a.x a.y k ⟨ha.1.2, ha.2.1.2, hk⟩ (hasS_base ha.1) (hasS_base ha.2.1) hx).2.2

theorem same_canon {d0 d1 d2 : Int} {a b : Bx} (ha : mayB d0 d1 d2 a) (hb : mayB d0 d1 d2 b) :
    (inB d0 d1 d2 a b = true ∧ inB d0 d1 d2 b a = true) ↔ canonB d0 d1 d2 a = canonB d0 d1 d2 b := by
  have k0 := sameS_iff ha.1 hb.1
  have k1 := sameS_iff ha.2.1 hb.2.1
  have k2 := sameS_iff ha.2.2 hb.2.2
  simp only [inB, Bool.and_eq_true]
  have : ((inS d0 a.x a.a b.x b.a = true ∧ inS d1 a.y a.b b.y b.b = true) ∧ inS d2 a.z a.c b.z b.c = true) ∧ ((inS d0 b.x b.a a.x a.a = true ∧ inS d1 b.y b.b a.y a.b = true) ∧ inS d2 b.z b.c a.z a.c = true) ↔
      (a.a = b.a ∧ (a.a = d0 ∨ a.x = b.x)) ∧ (a.b = b.b ∧ (a.b = d1 ∨ a.y = b.y)) ∧ (a.c = b.c ∧ (a.c = d2 ∨ a.z = b.z)) := by
    rw [← k0, ← k1, ← k2]
    constructor
    · rintro ⟨⟨⟨x1, x2⟩, x3⟩, ⟨y1, y2⟩, y3⟩; exact ⟨⟨x1, y1⟩, ⟨x2, y2⟩, x3, y3⟩
    · rintro ⟨⟨x1, y1⟩, ⟨x2, y2⟩, x3, y3⟩; exact ⟨⟨⟨x1, x2⟩, x3⟩, ⟨y1, y2⟩, y3⟩
  rw [this]
  simp only [canonB, Bx.mk.injEq]
  constructor
  · rintro ⟨⟨e0, f0⟩, ⟨e1, f1⟩, e2, f2⟩
    refine ⟨?_, ?_, ?_, e0, e1, e2⟩
    · rcases f0 with f | f <;> simp [← e0, f]
    · rcases f1 with f | f <;> simp [← e1, f]
    · rcases f2 with f | f <;> simp [← e2, f]
  · rintro ⟨f0, f1, f2, e0, e1, e2⟩
    refine ⟨⟨e0, ?_⟩, ⟨e1, ?_⟩, e2, ?_⟩
    · by_cases h : a.a = d0
      · exact .inl h
      · rw [← e0, if_neg h, if_neg h] at f0; exact .inr f0
    · by_cases h : a.b = d1
      · exact .inl h
      · rw [← e1, if_neg h, if_neg h] at f1; exact .inr f1
    · by_cases h : a.c = d2
      · exact .inl h
      · rw [← e2, if_neg h, if_neg h] at f2; exact .inr f2

theorem meetB_sym (d0 d1 d2 : Int) (a b : Bx) : meetB d0 d1 d2 a b = meetB d0 d1 d2 b a := by
  simp only [meetB, meetS_sym d0 a.x, meetS_sym d1 a.y, meetS_sym d2 a.z]
theorem inB_meetB {d0 d1 d2 : Int} {a b : Bx} (ha : mayB d0 d1 d2 a) (hb : mayB d0 d1 d2 b) (h : inB d0 d1 d2 a b = true) : meetB d0 d1 d2 a b = true := by
  simp only [inB, meetB, Bool.and_eq_true] at h ⊢
  exact ⟨⟨inS_meetS ha.1 hb.1 h.1.1, inS_meetS ha.2.1 hb.2.1 h.1.2⟩, inS_meetS ha.2.2 hb.2.2 h.2⟩
def manyB (b : Bx) : Int := b.a * b.b * b.c
theorem inB_many {d0 d1 d2 : Int} {a b : Bx} (ha : mayB d0 d1 d2 a) (hb : mayB d0 d1 d2 b) (h : inB d0 d1 d2 a b = true) : manyB a ≤ manyB b := by
  simp only [inB, Bool.and_eq_true] at h
  have h0 := inS_size ha.1 hb.1 h.1.1
  have h1 := inS_size ha.2.1 hb.2.1 h.1.2
  have h2 := inS_size ha.2.2 hb.2.2 h.2
  have p0 : 0 ≤ a.a := by have := ha.1.1; omega
  have p1 : 0 ≤ a.b := by have := ha.2.1.1; omega
  have p2 : 0 ≤ a.c := by have := ha.2.2.1; omega
  unfold manyB
  exact Int.mul_le_mul (Int.mul_le_mul h0 h1 p1 (by omega)) h2 p2 (Int.mul_nonneg (by omega) (by omega))

end Go.Proofs.YtldcagjnngkabaaGreatDoor

/-
  '==' between two boxes: as their numbers are.
-/
namespace Go.Proofs.YtldcagjnngkabaaGreatDoor
open Go.RowKit

theorem eqIn_arr3_at {P : Program} (d : Nat) {t e : TypeId} {i : TypeInfo} (hu : P.underlying t = some (.array 3 e)) (he : P.underlying e = some (.int .i64)) (hi : P.info? e = some i) (hc : P.cellsOf e = 1) (hp : P.plainKey e = true)
    (a b c a' b' c' : Int) (w : World) : (Op.equalIn (d + 2) t (.agg #[.int .i64 a, .int .i64 b, .int .i64 c]) (.agg #[.int .i64 a', .int .i64 b', .int .i64 c'])).run P w = .ok (a == a' && (b == b' && c == c')) w := by
  rw [run_equalIn_array w (d + 1) _ _ hu hi, hc]
  have r3 : List.range 3 = [0, 1, 2] := rfl
  have p0 : ∀ (x y z : Value) (w : World), (part e #[x, y, z] 0).run P w = .ok x w := fun x y z w => run_part_plain w hp rfl
  have p1 : ∀ (x y z : Value) (w : World), (part e #[x, y, z] 1).run P w = .ok y w := fun x y z w => run_part_plain w hp rfl
  have p2 : ∀ (x y z : Value) (w : World), (part e #[x, y, z] 2).run P w = .ok z w := fun x y z w => run_part_plain w hp rfl
  have hq : ∀ (x y : Int) (w : World), (Op.equalIn (d + 1) e (.int .i64 x) (.int .i64 y)).run P w = .ok (x == y) w := fun x y w => run_equalIn_int w d e .i64 .i64 x y he
  rw [r3]
  by_cases h0 : a = a' <;> by_cases h1 : b = b' <;> by_cases h2 : c = c' <;> simp [Op.eqItems, p0, p1, p2, hq, h0, h1, h2]

/-- Two rows of three numbers are the same. -/
def same3 (a b c a' b' c' : Int) : Bool := a == a' && (b == b' && c == c')
theorem same3_self (a b c : Int) : same3 a b c a b c = true := by simp [same3]
def sameBx (a b : Bx) : Bool := same3 a.x a.y a.z b.x b.y b.z && same3 a.a a.b a.c b.a b.b b.c
theorem sameBx_iff (a b : Bx) : sameBx a b = true ↔ a = b := by
  cases a; cases b; simp [sameBx, same3, and_assoc]
theorem sameBx_self (a : Bx) : sameBx a a = true := (sameBx_iff a a).2 rfl

set_option maxRecDepth 100000 in
theorem eq_arr9 (a b c a' b' c' : Int) (w : World) : (Op.equalIn 9999 22 (.agg #[.int .i64 a, .int .i64 b, .int .i64 c]) (.agg #[.int .i64 a', .int .i64 b', .int .i64 c'])).run Tryz.prog w = .ok (same3 a b c a' b' c') w := by
  obtain ⟨i, hi⟩ : ∃ i, Tryz.prog.info? 3 = some i := ⟨_, rfl⟩
  exact eqIn_arr3_at 9997 Tryz.underlying22 Tryz.underlying3 hi (by kernel_rfl) (by kernel_rfl) a b c a' b' c' w

end Go.Proofs.YtldcagjnngkabaaGreatDoor

/-
  box's sides: sideOf, mayBe, after, has, meets, within: what each call answers; nothing that lay before is turned.
-/
namespace Go.Proofs.YtldcagjnngkabaaGreatDoor
open Go.RowKit Go.Shelf

attribute [local go_sem] Oper.semAt_some ext_const

/-- What a later world has in a box's block. -/
theorem Blk.six {W W' : World} {B : Nat} {t : TypeId} {a b c d e f : Int} (h : Blk W B t #[I a, I b, I c, I d, I e, I f]) (hb : Below W.heap.size W W') :
    (W'.cell? ⟨B, 0, none⟩ = some (I a) ∧ W'.cell? ⟨B, 1, none⟩ = some (I b) ∧ W'.cell? ⟨B, 2, none⟩ = some (I c)) ∧ (W'.cell? ⟨B, 3, none⟩ = some (I d) ∧ W'.cell? ⟨B, 4, none⟩ = some (I e) ∧ W'.cell? ⟨B, 5, none⟩ = some (I f)) ∧ B < W'.heap.size :=
  ⟨⟨(h.later hb).cell 0, (h.later hb).cell 1, (h.later hb).cell 2⟩, ⟨(h.later hb).cell 3, (h.later hb).cell 4, (h.later hb).cell 5⟩, (h.later hb).lt⟩

theorem after_calls {r b k : Int} (s : Int) (w : World) (hr : r ≤ 16) (hb : 0 ≤ b ∧ b < r) (hk : 0 ≤ k ∧ k < r) :
    Calls Tryz.prog 197 #[A3 r b s, I k] w fun e W' => e = .returned (I (aft r b k)) ∧ Below w.heap.size w W' := by
  have HR : Hid ((k - b + r) % r = aft r b k) := aft_rem hb hk
  obtain ⟨b0, b1⟩ := hb
  obtain ⟨k0, k1⟩ := hk
  go_enter Tryz.func197, Tryz.ntmps197
  go_wp2
  go_ret
  rw [HR.out]
  exact ⟨rfl, (Below.refl _ w).alloc (Nat.le_refl _) _⟩

theorem has_calls {r b k : Int} (s : Int) (w : World) (hr : r ≤ 16) (hb : 0 ≤ b ∧ b < r) (hk : 0 ≤ k ∧ k < r) :
    Calls Tryz.prog 179 #[A3 r b s, I k] w fun e W' => e = .returned (.bool (hasS r b s k)) ∧ Below w.heap.size w W' := by
  have hmx : Tryz.prog.follows .mixedOrders = true := by kernel_rfl
  go_enter Tryz.func179, Tryz.ntmps179
  go_wp2
  have b0 := Blk.new w 208 #[I r, I b, I s]
  have x0 := Ext.cell b0 0
  have x1 := Ext.cell b0 1
  have x2 := Ext.cell b0 2
  simp at x0 x1 x2
  have hT : Below w.heap.size w (w.alloc (.cells #[I r, I b, I s] 208)) := (Below.refl _ w).alloc (Nat.le_refl _) _
  refine wp_region_look hmx (by kernel_rfl) ?_
  repeat (go_big_quiet_step ((go_at_call 197; exact calls_ext (after_calls s _ hr hb hk))))
  refine wpQuiet_nil ?_
  intro v
  go_wp2
  go_ret
  exact ⟨rfl, then_below hT v.le⟩

theorem maybe_calls (r b s : Int) (w : World) :
    Calls Tryz.prog 178 #[A3 r b s] w fun e W' => e = .returned (.bool (maySB r b s)) ∧ Below w.heap.size w W' := by
  go_enter Tryz.func178, Tryz.ntmps178
  go_wp2
  all_goals
    go_ret
    refine ⟨?_, (Below.refl _ w).alloc (Nat.le_refl _) _⟩
    simp [maySB, *]
    try omega

theorem three_start (w : World) (u0 u1 u2 : Array Value) (t0 t1 t2 : TypeId) :
    ∃ W : World, ((w.alloc (.cells u0 t0)).alloc (.cells u1 t1)).alloc (.cells u2 t2) = W ∧ W.heap.size = w.heap.size + 3 ∧ Below w.heap.size w W ∧ Blk W w.heap.size t0 u0 ∧ Blk W (w.heap.size + 1) t1 u1 ∧ Blk W (w.heap.size + 1 + 1) t2 u2 := by
  obtain ⟨W, hW, hB, b0, b1⟩ := two_start w u0 u1 t0 t1
  refine ⟨_, rfl, by simp, ?_, ?_, ?_, ?_⟩
  · rw [hW]; exact then_alloc hB _
  · rw [hW]; exact b0.alloc _
  · rw [hW]; exact b1.alloc _
  · have := Blk.new ((w.alloc (.cells u0 t0)).alloc (.cells u1 t1)) t2 u2; simpa using this

set_option maxHeartbeats 1000000 in
theorem side_calls (d0 d1 d2 : Int) (b : Bx) (k : Fin 3) (w : World) :
    Calls Tryz.prog 158 #[A3 d0 d1 d2, B6 b, I (axI k)] w fun e W' => e = .returned (A3 (dimAt d0 d1 d2 k) (bAt b k) (sAt b k)) ∧ Below w.heap.size w W' := by
  have hmx : Tryz.prog.follows .mixedOrders = true := by kernel_rfl
  rcases fin3 k with rfl | rfl | rfl
  all_goals
    simp only [axI, bAt, sAt, dimAt]
    go_enter Tryz.func158, Tryz.ntmps158
    go_wp2
    obtain ⟨W, hW, hs, hB0, b0, b1, b2⟩ := three_start w #[I d0, I d1, I d2] #[I b.x, I b.y, I b.z, I b.a, I b.b, I b.c] #[I 0, I 0, I 0] 23 40 208
    rw [hW]
    clear hW
    have x0 := Ext.cell b0 0
    have x1 := Ext.cell b0 1
    have x2 := Ext.cell b0 2
    have y0 := Ext.cell b1 0
    have y1 := Ext.cell b1 1
    have y2 := Ext.cell b1 2
    have y3 := Ext.cell b1 3
    have y4 := Ext.cell b1 4
    have y5 := Ext.cell b1 5
    simp at x0 x1 x2 y0 y1 y2 y3 y4 y5
    refine wp_region_tail 12 hmx (by kernel_rfl) ?_
    simp only [List.take_succ_cons, List.take_zero, List.drop_succ_cons, List.drop_zero]
    repeat (go_big_quiet_step (fail))
    refine wpQuiet_nil ?_
    intro v
    have q2 := b2.later v.le
    obtain ⟨c0, c1, c2, f0, f1, f2⟩ := q2.row
    gi_wp2
  · have hBX := below_set3 (below_ext hB0 v) (show w.heap.size ≤ w.heap.size + 1 + 1 by omega) (I d0) (I b.x) (I b.a)
    obtain ⟨j0, j1, j2, _, _, _⟩ := (q2.set3 (I d0) (I b.x) (I b.a)).row
    go_wp2
    exact bodyPost_ret (v := A3 d0 b.x b.a) (by simp [results, Tryz.f158, go_sem, j0, j1, j2]) rfl ⟨rfl, hBX⟩
  · have hBX := below_set3 (below_ext hB0 v) (show w.heap.size ≤ w.heap.size + 1 + 1 by omega) (I d1) (I b.y) (I b.b)
    obtain ⟨j0, j1, j2, _, _, _⟩ := (q2.set3 (I d1) (I b.y) (I b.b)).row
    go_wp2
    exact bodyPost_ret (v := A3 d1 b.y b.b) (by simp [results, Tryz.f158, go_sem, j0, j1, j2]) rfl ⟨rfl, hBX⟩
  · have hBX := below_set3 (below_ext hB0 v) (show w.heap.size ≤ w.heap.size + 1 + 1 by omega) (I d2) (I b.z) (I b.c)
    obtain ⟨j0, j1, j2, _, _, _⟩ := (q2.set3 (I d2) (I b.z) (I b.c)).row
    go_wp2
    exact bodyPost_ret (v := A3 d2 b.z b.c) (by simp [results, Tryz.f158, go_sem, j0, j1, j2]) rfl ⟨rfl, hBX⟩

theorem side_any (d0 d1 d2 x y z a b c : Int) (k : Fin 3) (w : World) :
    Calls Tryz.prog 158 #[A3 d0 d1 d2, .agg #[I x, I y, I z, I a, I b, I c], I (axI k)] w fun e W' => e = .returned (A3 (dimAt d0 d1 d2 k) (dimAt x y z k) (dimAt a b c k)) ∧ Below w.heap.size w W' :=
  side_calls d0 d1 d2 ⟨x, y, z, a, b, c⟩ k w

end Go.Proofs.YtldcagjnngkabaaGreatDoor

/-
  box.along and the four closures that it is handed; box.check, of one box and of two.
-/
namespace Go.Proofs.YtldcagjnngkabaaGreatDoor
open Go.RowKit Go.Shelf

attribute [local go_sem] Oper.semAt_some ext_const

/-- A closure answers p of each axis, in every world that keeps what lay in w. -/
def Answers (f : FuncId) (caps : Array Value) (w : World) (p : Fin 3 → Bool) : Prop :=
  ∀ (x : Ext w) (k : Fin 3), Calls Tryz.prog f (#[I (axI k)] ++ caps) x.wd fun e W' => e = .returned (.bool (p k)) ∧ Below x.wd.heap.size x.wd W'

set_option maxRecDepth 100000 in
set_option maxHeartbeats 2000000 in
theorem along_ck {f : FuncId} {caps : Array Value} {p : Fin 3 → Bool} (w : World) (hf : f = 177 ∧ ∃ a b, caps = #[a, b]) (h : Answers f caps w p) :
    Calls Tryz.prog 176 #[.func (.func f) #[] caps] w fun e W' => e = .returned (.bool (p 0 && p 1 && p 2)) ∧ Below w.heap.size w W' := by
  have H : Hid (Answers f caps w p) := h
  clear h
  obtain ⟨rfl, a, b, rfl⟩ := hf
  all_goals
    go_enter Tryz.func176, Tryz.ntmps176
    go_wp2
    go_loopw [4] (fun i wr => ((i = .int .i64 0 ∧ True) ∨ (i = .int .i64 1 ∧ p 0 = true) ∨ (i = .int .i64 2 ∧ p 0 = true ∧ p 1 = true) ∨ (i = .int .i64 3 ∧ p 0 = true ∧ p 1 = true ∧ p 2 = true)) ∧ Below w.heap.size w wr) (fun i _ => 3 - (RowKit.intOf i).toNat)
    case atStart => exact ⟨.inl ⟨rfl, trivial⟩, Below.refl _ _⟩
    case round =>
      obtain ⟨hi, hT⟩ := hrel
      rcases hi with ⟨rfl, _⟩ | ⟨rfl, h0⟩ | ⟨rfl, h0, h1⟩ | ⟨rfl, h0, h1, h2⟩
      · go_wp2_with fail
        refine (H.out ⟨wr, hT⟩ 0).mono ?_
        rintro e w1 ⟨rfl, hB⟩
        cases hp : p 0
        · go_wp2
          go_ret
          exact ⟨by simp [hp], then_below hT hB⟩
        · go_wp2
          go_roundw
          case rel => exact ⟨.inr (.inl ⟨rfl, hp⟩), then_below hT hB⟩
          case measure => simp [RowKit.intOf]
      · go_wp2_with fail
        refine (H.out ⟨wr, hT⟩ 1).mono ?_
        rintro e w1 ⟨rfl, hB⟩
        cases hp : p 1
        · go_wp2
          go_ret
          exact ⟨by simp [hp], then_below hT hB⟩
        · go_wp2
          go_roundw
          case rel => exact ⟨.inr (.inr (.inl ⟨rfl, h0, hp⟩)), then_below hT hB⟩
          case measure => simp [RowKit.intOf]
      · go_wp2_with fail
        refine (H.out ⟨wr, hT⟩ 2).mono ?_
        rintro e w1 ⟨rfl, hB⟩
        cases hp : p 2
        · go_wp2
          go_ret
          exact ⟨by simp [hp], then_below hT hB⟩
        · go_wp2
          go_roundw
          case rel => exact ⟨.inr (.inr (.inr ⟨rfl, h0, h1, hp⟩)), then_below hT hB⟩
          case measure => simp [RowKit.intOf]
      · go_wp2
        go_ret
        exact ⟨by simp [h0, h1, h2], hT⟩

theorem ans_check {w : World} {D B : Nat} {d0 d1 d2 : Int} {b : Bx} (hd : Blk w D 23 #[I d0, I d1, I d2]) (hb : Blk w B 40 #[I b.x, I b.y, I b.z, I b.a, I b.b, I b.c]) :
    Answers 177 #[.pointer (some ⟨D, 0, none⟩), .pointer (some ⟨B, 0, none⟩)] w (fun k => maySB (dimAt d0 d1 d2 k) (bAt b k) (sAt b k)) := by
  intro x k
  obtain ⟨c0, c1, c2, hz⟩ := hd.three x.le
  obtain ⟨⟨k0, k1, k2⟩, ⟨k3, k4, k5⟩, hz1⟩ := hb.six x.le
  simp only [List.append_toArray, List.cons_append, List.nil_append]
  go_enter Tryz.func177, Tryz.ntmps177
  go_wp2_with fail
  refine (side_calls d0 d1 d2 b k _).mono ?_
  rintro e w1 ⟨rfl, hB1⟩
  go_wp2_with fail
  refine (maybe_calls _ _ _ _).mono ?_
  rintro e w2 ⟨rfl, hB2⟩
  go_wp2
  go_ret
  exact ⟨rfl, then_below hB1 hB2⟩

end Go.Proofs.YtldcagjnngkabaaGreatDoor

/-
  Boxes that wrap, as plain arithmetic: sides on a ring, the midplanes of a box, when two meet, when one lies in another, when they are the same.
-/
import Derived.Test.YtbedhpooeabehaaGreatDoorPart2
namespace Go.Proofs.YtbedhpooeabehaaGreatDoor

/-- A box: where it begins, and how much it has along each axis. -/
structure Bx where
  x : Int
  y : Int
  z : Int
  a : Int
  b : Int
  c : Int
abbrev B6 (b : Bx) : Value := .agg #[.int .i64 b.x, .int .i64 b.y, .int .i64 b.z, .int .i64 b.a, .int .i64 b.b, .int .i64 b.c]

/-- A side: ring r, beginning at b, s of it. -/
def mayS (r b s : Int) : Prop := (1 ≤ s ∧ s ≤ r) ∧ (0 ≤ b ∧ b < r)
def maySB (r b s : Int) : Bool := decide (1 ≤ s) && (decide (s ≤ r) && (decide (0 ≤ b) && decide (b < r)))
theorem maySB_iff (r b s : Int) : maySB r b s = true ↔ mayS r b s := by simp [maySB, mayS, and_assoc]
def aft (r b k : Int) : Int := if b ≤ k then k - b else k - b + r
def hasS (r b s k : Int) : Bool := decide (aft r b k < s)
def meetS (r b s b' s' : Int) : Bool := hasS r b s b' || hasS r b' s' b
def inS (r b s b' s' : Int) : Bool := s' == r || decide (aft r b' b + s ≤ s')

theorem aft_bd {r b k : Int} (hb : 0 ≤ b ∧ b < r) (hk : 0 ≤ k ∧ k < r) : 0 ≤ aft r b k ∧ aft r b k < r := by unfold aft; split <;> omega
theorem aft_rem {r b k : Int} (hb : 0 ≤ b ∧ b < r) (hk : 0 ≤ k ∧ k < r) : (k - b + r) % r = aft r b k := by
  unfold aft
  split
  · rw [Int.add_emod_right, Int.emod_eq_of_lt (by omega) (by omega)]
  · rw [Int.emod_eq_of_lt (by omega) (by omega)]
theorem on_rem {r b k : Int} (hb : 0 ≤ b ∧ b < r) (hk : 0 ≤ k ∧ k < r) : (b + k) % r = if b + k < r then b + k else b + k - r := by
  split
  · rw [Int.emod_eq_of_lt (by omega) (by omega)]
  · rw [show b + k = (b + k - r) + r by omega, Int.add_emod_right, Int.emod_eq_of_lt (by omega) (by omega)]; omega

/-- What a side has, a step after another. -/
theorem hasS_iff {r b s k : Int} (h : mayS r b s) (hk : 0 ≤ k ∧ k < r) : hasS r b s k = true ↔ ∃ j, 0 ≤ j ∧ j < s ∧ (b + j) % r = k := by
  obtain ⟨⟨h1, h2⟩, h3, h4⟩ := h
  simp only [hasS, decide_eq_true_eq]
  constructor
  · intro ha
    refine ⟨aft r b k, (aft_bd ⟨h3, h4⟩ hk).1, ha, ?_⟩
    rw [on_rem ⟨h3, h4⟩ (aft_bd ⟨h3, h4⟩ hk)]
    unfold aft
    split <;> split <;> omega
  · rintro ⟨j, j0, j1, hj⟩
    rw [on_rem ⟨h3, h4⟩ ⟨j0, by omega⟩] at hj
    unfold aft
    split at hj <;> split <;> omega
theorem hasS_base {r b s : Int} (h : mayS r b s) : hasS r b s b = true := by
  obtain ⟨⟨h1, h2⟩, h3, h4⟩ := h
  simp [hasS, aft]; omega

theorem meetS_iff {r b s b' s' : Int} (h : mayS r b s) (h' : mayS r b' s') : meetS r b s b' s' = true ↔ ∃ k, (0 ≤ k ∧ k < r) ∧ hasS r b s k = true ∧ hasS r b' s' k = true := by
  have H := h
  have H' := h'
  obtain ⟨⟨h1, h2⟩, h3, h4⟩ := h
  obtain ⟨⟨g1, g2⟩, g3, g4⟩ := h'
  constructor
  · intro hm
    simp only [meetS, Bool.or_eq_true] at hm
    rcases hm with hm | hm
    · exact ⟨b', ⟨g3, g4⟩, hm, hasS_base H'⟩
    · exact ⟨b, ⟨h3, h4⟩, hasS_base H, hm⟩
  · rintro ⟨k, ⟨k0, k1⟩, ha, hb⟩
    simp only [meetS, hasS, Bool.or_eq_true, decide_eq_true_eq] at ha hb ⊢
    unfold aft at ha hb ⊢
    split at ha <;> split at hb <;> (split <;> split <;> omega)
theorem inS_iff {r b s b' s' : Int} (h : mayS r b s) (h' : mayS r b' s') : inS r b s b' s' = true ↔ ∀ k, (0 ≤ k ∧ k < r) → hasS r b s k = true → hasS r b' s' k = true := by
  obtain ⟨⟨h1, h2⟩, h3, h4⟩ := h
  obtain ⟨⟨g1, g2⟩, g3, g4⟩ := h'
  simp only [inS, hasS, Bool.or_eq_true, beq_iff_eq, decide_eq_true_eq]
  constructor
  · rintro hc k ⟨k0, k1⟩ ha
    unfold aft at ha hc ⊢
    split at ha <;> split at hc <;> split <;> omega
  · intro hall
    by_cases he : s' = r
    · exact .inl he
    · refine .inr ?_
      have h0 := hall b ⟨h3, h4⟩ (by unfold aft; split <;> omega)
      -- the coordinate behind the other side's last one
      have h2' := hall (if b' + s' < r then b' + s' else b' + s' - r) (by split <;> omega)
      unfold aft at h0 h2' ⊢
      split at h0 <;> split at h2' <;> split at h2' <;> split at h2' <;> (try split) <;> omega
theorem sameS_iff {r b s b' s' : Int} (h : mayS r b s) (h' : mayS r b' s') : (inS r b s b' s' = true ∧ inS r b' s' b s = true) ↔ s = s' ∧ (s = r ∨ b = b') := by
  obtain ⟨⟨h1, h2⟩, h3, h4⟩ := h
  obtain ⟨⟨g1, g2⟩, g3, g4⟩ := h'
  simp only [inS, Bool.or_eq_true, beq_iff_eq, decide_eq_true_eq]
  unfold aft
  constructor
  · rintro ⟨hx, hy⟩
    split at hx <;> split at hy <;> omega
  · rintro ⟨rfl, hx⟩
    split <;> split <;> omega
theorem meetS_sym (r b s b' s' : Int) : meetS r b s b' s' = meetS r b' s' b s := by simp [meetS, Bool.or_comm]
theorem inS_meetS {r b s b' s' : Int} (h : mayS r b s) (h' : mayS r b' s') (hi : inS r b s b' s' = true) : meetS r b s b' s' = true :=
  (meetS_iff h h').2 ⟨b, h.2, hasS_base h, (inS_iff h h').1 hi b h.2 (hasS_base h)⟩
theorem inS_size {r b s b' s' : Int} (h : mayS r b s) (h' : mayS r b' s') (hi : inS r b s b' s' = true) : s ≤ s' := by
  obtain ⟨⟨h1, h2⟩, h3, h4⟩ := h
  obtain ⟨⟨g1, g2⟩, g3, g4⟩ := h'
  simp only [inS, Bool.or_eq_true, beq_iff_eq, decide_eq_true_eq] at hi
  have := (aft_bd (r := r) (b := b') (k := b) ⟨g3, g4⟩ ⟨h3, h4⟩).1
  omega

def okDB (d0 d1 d2 : Int) : Bool := decide (1 ≤ d0) && decide (d0 ≤ 16) && (decide (1 ≤ d1) && decide (d1 ≤ 16)) && (decide (1 ≤ d2) && decide (d2 ≤ 16))
theorem okDB_iff (d0 d1 d2 : Int) : okDB d0 d1 d2 = true ↔ mayD d0 d1 d2 := by simp [okDB, mayD, okD, and_assoc]

/-- A box may be. -/
def mayB (d0 d1 d2 : Int) (b : Bx) : Prop := mayS d0 b.x b.a ∧ mayS d1 b.y b.b ∧ mayS d2 b.z b.c
def mayBB (d0 d1 d2 : Int) (b : Bx) : Bool := maySB d0 b.x b.a && maySB d1 b.y b.b && maySB d2 b.z b.c
theorem mayBB_iff (d0 d1 d2 : Int) (b : Bx) : mayBB d0 d1 d2 b = true ↔ mayB d0 d1 d2 b := by simp [mayBB, mayB, maySB_iff, and_assoc]
theorem mayBB_no {d0 d1 d2 : Int} {b : Bx} (h : ¬ mayB d0 d1 d2 b) : mayBB d0 d1 d2 b = false := by
  rw [← Bool.not_eq_true, mayBB_iff]; exact h

abbrev bAt (b : Bx) (k : Fin 3) : Int := dimAt b.x b.y b.z k
abbrev sAt (b : Bx) (k : Fin 3) : Int := dimAt b.a b.b b.c k
theorem mayB_at {d0 d1 d2 : Int} {b : Bx} (h : mayB d0 d1 d2 b) (k : Fin 3) : mayS (dimAt d0 d1 d2 k) (bAt b k) (sAt b k) := by
  match k with
  | 0 => exact h.1
  | 1 => exact h.2.1
  | 2 => exact h.2.2

def canonB (d0 d1 d2 : Int) (b : Bx) : Bx := ⟨if b.a = d0 then 0 else b.x, if b.b = d1 then 0 else b.y, if b.c = d2 then 0 else b.z, b.a, b.b, b.c⟩
theorem canon_may {d0 d1 d2 : Int} {b : Bx} (h : mayB d0 d1 d2 b) : mayB d0 d1 d2 (canonB d0 d1 d2 b) := by
  obtain ⟨⟨⟨h1, h2⟩, h3, h4⟩, ⟨⟨g1, g2⟩, g3, g4⟩, ⟨⟨k1, k2⟩, k3, k4⟩⟩ := h
  simp only [mayB, mayS, canonB]
  refine ⟨⟨⟨h1, h2⟩, ?_⟩, ⟨⟨g1, g2⟩, ?_⟩, ⟨⟨k1, k2⟩, ?_⟩⟩ <;> split <;> omega
theorem canon_canon (d0 d1 d2 : Int) (b : Bx) : canonB d0 d1 d2 (canonB d0 d1 d2 b) = canonB d0 d1 d2 b := by
  simp only [canonB, Bx.mk.injEq, and_true]
  refine ⟨?_, ?_, ?_⟩ <;> split <;> simp_all

def hasB (d0 d1 d2 : Int) (b : Bx) (m : Int) : Bool := hasS d0 b.x b.a (cx d0 m) && hasS d1 b.y b.b (cy d0 d1 m) && hasS d2 b.z b.c (cz d0 d1 m)
def meetB (d0 d1 d2 : Int) (a b : Bx) : Bool := meetS d0 a.x a.a b.x b.a && meetS d1 a.y a.b b.y b.b && meetS d2 a.z a.c b.z b.c
def inB (d0 d1 d2 : Int) (a b : Bx) : Bool := inS d0 a.x a.a b.x b.a && inS d1 a.y a.b b.y b.b && inS d2 a.z a.c b.z b.c

theorem hasB_num {d0 d1 d2 p q r : Int} {b : Bx} (h : mayD d0 d1 d2) (hp : inD d0 d1 d2 p q r) : hasB d0 d1 d2 b (numD d0 d1 p q r) = (hasS d0 b.x b.a p && hasS d1 b.y b.b q && hasS d2 b.z b.c r) := by
  obtain ⟨_, hx, hy, hz⟩ := node_of_in h hp
  rw [hasB, hx, hy, hz]

theorem meetB_iff {d0 d1 d2 : Int} {a b : Bx} (h : mayD d0 d1 d2) (ha : mayB d0 d1 d2 a) (hb : mayB d0 d1 d2 b) :
    meetB d0 d1 d2 a b = true ↔ ∃ m, (0 ≤ m ∧ m < d0 * d1 * d2) ∧ hasB d0 d1 d2 a m = true ∧ hasB d0 d1 d2 b m = true := by
  simp only [meetB, Bool.and_eq_true]
  rw [meetS_iff ha.1 hb.1, meetS_iff ha.2.1 hb.2.1, meetS_iff ha.2.2 hb.2.2]
  constructor
  · rintro ⟨⟨⟨p, hp, p1, p2⟩, q, hq, q1, q2⟩, r, hr, r1, r2⟩
    refine ⟨numD d0 d1 p q r, (node_of_in h ⟨hp, hq, hr⟩).1, ?_, ?_⟩
    · rw [hasB_num h ⟨hp, hq, hr⟩, p1, q1, r1]; rfl
    · rw [hasB_num h ⟨hp, hq, hr⟩, p2, q2, r2]; rfl
  · rintro ⟨m, hm, h1, h2⟩
    simp only [hasB, Bool.and_eq_true] at h1 h2
    obtain ⟨i0, i1, i2⟩ := inD_of_node h hm
    exact ⟨⟨⟨_, i0, h1.1.1, h2.1.1⟩, _, i1, h1.1.2, h2.1.2⟩, _, i2, h1.2, h2.2⟩

theorem inB_iff {d0 d1 d2 : Int} {a b : Bx} (h : mayD d0 d1 d2) (ha : mayB d0 d1 d2 a) (hb : mayB d0 d1 d2 b) :
    inB d0 d1 d2 a b = true ↔ ∀ m, (0 ≤ m ∧ m < d0 * d1 * d2) → hasB d0 d1 d2 a m = true → hasB d0 d1 d2 b m = true := by
  simp only [inB, Bool.and_eq_true]
  rw [inS_iff ha.1 hb.1, inS_iff ha.2.1 hb.2.1, inS_iff ha.2.2 hb.2.2]
  constructor
  · rintro ⟨⟨f0, f1⟩, f2⟩ m hm h1
    simp only [hasB, Bool.and_eq_true] at h1 ⊢
    obtain ⟨i0, i1, i2⟩ := inD_of_node h hm
    exact ⟨⟨f0 _ i0 h1.1.1, f1 _ i1 h1.1.2⟩, f2 _ i2 h1.2⟩
  · intro f
    have key : ∀ p q r, inD d0 d1 d2 p q r → hasS d0 a.x a.a p = true → hasS d1 a.y a.b q = true → hasS d2 a.z a.c r = true → hasS d0 b.x b.a p = true ∧ hasS d1 b.y b.b q = true ∧ hasS d2 b.z b.c r = true := by
      intro p q r hi h1 h2 h3
      have := f (numD d0 d1 p q r) (node_of_in h hi).1 (by rw [hasB_num h hi, h1, h2, h3]; rfl)
      rw [hasB_num h hi] at this
      simp only [Bool.and_eq_true] at this
      exact ⟨this.1.1, this.1.2, this.2⟩
    refine ⟨⟨fun k hk hx => ?_, fun k hk hx => ?_⟩, fun k hk hx => ?_⟩
    · exact (key k a.y a.z ⟨hk, ha.2.1.2, ha.2.2.2⟩ hx (hasS_base ha.2.1) (hasS_base ha.2.2)).1
    · exact (key a.x k a.z ⟨ha.1.2, hk, ha.2.2.2⟩ (hasS_base ha.1) hx (hasS_base ha.2.2)).2.1
    · exact (key a.x a.y k ⟨ha.1.2, ha.2.1.2, hk⟩ (hasS_base ha.1) (hasS_base ha.2.1) hx).2.2

theorem same_canon {d0 d1 d2 : Int} {a b : Bx} (ha : mayB d0 d1 d2 a) (hb : mayB d0 d1 d2 b) :
    (inB d0 d1 d2 a b = true ∧ inB d0 d1 d2 b a = true) ↔ canonB d0 d1 d2 a = canonB d0 d1 d2 b := by
  have k0 := sameS_iff ha.1 hb.1
  have k1 := sameS_iff ha.2.1 hb.2.1
  have k2 := sameS_iff ha.2.2 hb.2.2
  simp only [inB, Bool.and_eq_true]
  have : ((inS d0 a.x a.a b.x b.a = true ∧ inS d1 a.y a.b b.y b.b = true) ∧ inS d2 a.z a.c b.z b.c = true) ∧ ((inS d0 b.x b.a a.x a.a = true ∧ inS d1 b.y b.b a.y a.b = true) ∧ inS d2 b.z b.c a.z a.c = true) ↔
      (a.a = b.a ∧ (a.a = d0 ∨ a.x = b.x)) ∧ (a.b = b.b ∧ (a.b = d1 ∨ a.y = b.y)) ∧ (a.c = b.c ∧ (a.c = d2 ∨ a.z = b.z)) := by
    rw [← k0, ← k1, ← k2]
    constructor
    · rintro ⟨⟨⟨x1, x2⟩, x3⟩, ⟨y1, y2⟩, y3⟩; exact ⟨⟨x1, y1⟩, ⟨x2, y2⟩, x3, y3⟩
    · rintro ⟨⟨x1, y1⟩, ⟨x2, y2⟩, x3, y3⟩; exact ⟨⟨⟨x1, x2⟩, x3⟩, ⟨y1, y2⟩, y3⟩
  rw [this]
  simp only [canonB, Bx.mk.injEq]
  constructor
  · rintro ⟨⟨e0, f0⟩, ⟨e1, f1⟩, e2, f2⟩
    refine ⟨?_, ?_, ?_, e0, e1, e2⟩
    · rcases f0 with f | f <;> simp [← e0, f]
    · rcases f1 with f | f <;> simp [← e1, f]
    · rcases f2 with f | f <;> simp [← e2, f]
  · rintro ⟨f0, f1, f2, e0, e1, e2⟩
    refine ⟨⟨e0, ?_⟩, ⟨e1, ?_⟩, e2, ?_⟩
    · by_cases h : a.a = d0
      · exact .inl h
      · rw [← e0, if_neg h, if_neg h] at f0; exact .inr f0
    · by_cases h : a.b = d1
      · exact .inl h
      · rw [← e1, if_neg h, if_neg h] at f1; exact .inr f1
    · by_cases h : a.c = d2
      · exact .inl h
      · rw [← e2, if_neg h, if_neg h] at f2; exact .inr f2

theorem meetB_sym (d0 d1 d2 : Int) (a b : Bx) : meetB d0 d1 d2 a b = meetB d0 d1 d2 b a := by
  simp only [meetB, meetS_sym d0 a.x, meetS_sym d1 a.y, meetS_sym d2 a.z]
theorem inB_meetB {d0 d1 d2 : Int} {a b : Bx} (ha : mayB d0 d1 d2 a) (hb : mayB d0 d1 d2 b) (h : inB d0 d1 d2 a b = true) : meetB d0 d1 d2 a b = true := by
  simp only [inB, meetB, Bool.and_eq_true] at h ⊢
  exact ⟨⟨inS_meetS ha.1 hb.1 h.1.1, inS_meetS ha.2.1 hb.2.1 h.1.2⟩, inS_meetS ha.2.2 hb.2.2 h.2⟩
def manyB (b : Bx) : Int := b.a * b.b * b.c
theorem inB_many {d0 d1 d2 : Int} {a b : Bx} (ha : mayB d0 d1 d2 a) (hb : mayB d0 d1 d2 b) (h : inB d0 d1 d2 a b = true) : manyB a ≤ manyB b := by
  simp only [inB, Bool.and_eq_true] at h
  have h0 := inS_size ha.1 hb.1 h.1.1
  have h1 := inS_size ha.2.1 hb.2.1 h.1.2
  have h2 := inS_size ha.2.2 hb.2.2 h.2
  have p0 : 0 ≤ a.a := by have := ha.1.1; omega
  have p1 : 0 ≤ a.b := by have := ha.2.1.1; omega
  have p2 : 0 ≤ a.c := by have := ha.2.2.1; omega
  unfold manyB
  exact Int.mul_le_mul (Int.mul_le_mul h0 h1 p1 (by omega)) h2 p2 (Int.mul_nonneg (by omega) (by omega))

end Go.Proofs.YtbedhpooeabehaaGreatDoor

/-
  Plain arithmetic of places: which cables a box takes along an axis, as the midplanes of another box; how many there are; where they end. No program is named here.
-/
namespace Go.Proofs.YtbedhpooeabehaaGreatDoor
open Go.RowKit

/-- A midplane's coordinate along an axis. -/
def coK (d0 d1 m : Int) (k : Fin 3) : Int := dimAt (cx d0 m) (cy d0 d1 m) (cz d0 d1 m) k
theorem co_bd {d0 d1 d2 m : Int} (h : mayD d0 d1 d2) (hm : 0 ≤ m ∧ m < d0 * d1 * d2) (k : Fin 3) : 0 ≤ coK d0 d1 m k ∧ coK d0 d1 m k < dimAt d0 d1 d2 k := by
  obtain ⟨a, b, c⟩ := inD_of_node h hm
  rcases fin3 k with rfl | rfl | rfl
  · exact a
  · exact b
  · exact c
theorem co_ext {d0 d1 m n : Int} (h : ∀ k, coK d0 d1 m k = coK d0 d1 n k) : m = n := node_ext (d0 := d0) (d1 := d1) (h 0) (h 1) (h 2)
theorem co_on {d0 d1 d2 m : Int} (h : mayD d0 d1 d2) (hm : 0 ≤ m ∧ m < d0 * d1 * d2) (k : Fin 3) (n : Int) (j : Fin 3) :
    coK d0 d1 (onD d0 d1 d2 m k n) j = if j = k then (coK d0 d1 m k + n) % dimAt d0 d1 d2 k else coK d0 d1 m j := by
  obtain ⟨_, x, y, z⟩ := on_coords h hm k n
  rcases fin3 k with rfl | rfl | rfl <;> rcases fin3 j with rfl | rfl | rfl <;> simp_all [coK, dimAt]
theorem hasB_iff {d0 d1 d2 m : Int} {b : Bx} : hasB d0 d1 d2 b m = true ↔ ∀ k, hasS (dimAt d0 d1 d2 k) (bAt b k) (sAt b k) (coK d0 d1 m k) = true := by
  simp only [hasB, Bool.and_eq_true]
  constructor
  · rintro ⟨⟨a, b⟩, c⟩ k
    rcases fin3 k with rfl | rfl | rfl
    · exact a
    · exact b
    · exact c
  · intro h
    exact ⟨⟨h 0, h 1⟩, h 2⟩

theorem hasS_iff0 {r b s k : Int} (hs : 0 ≤ s ∧ s ≤ r) (hb : 0 ≤ b ∧ b < r) (hk : 0 ≤ k ∧ k < r) : hasS r b s k = true ↔ ∃ j, 0 ≤ j ∧ j < s ∧ (b + j) % r = k := by
  simp only [hasS, decide_eq_true_eq]
  constructor
  · intro ha
    refine ⟨aft r b k, (aft_bd hb hk).1, ha, ?_⟩
    rw [on_rem hb (aft_bd hb hk)]
    unfold aft
    split <;> split <;> omega
  · rintro ⟨j, j0, j1, hj⟩
    rw [on_rem hb ⟨j0, by omega⟩] at hj
    unfold aft
    split at hj <;> split <;> omega

/-- The box with another size along an axis. -/
def upB (b : Bx) (z : Int) (k : Fin 3) : Bx := match k with | 0 => ⟨b.x, b.y, b.z, z, b.b, b.c⟩ | 1 => ⟨b.x, b.y, b.z, b.a, z, b.c⟩ | 2 => ⟨b.x, b.y, b.z, b.a, b.b, z⟩
theorem upB_b (b : Bx) (z : Int) (k j : Fin 3) : bAt (upB b z k) j = bAt b j := by
  rcases fin3 k with rfl | rfl | rfl <;> rcases fin3 j with rfl | rfl | rfl <;> rfl
theorem upB_s (b : Bx) (z : Int) (k j : Fin 3) : sAt (upB b z k) j = if j = k then z else sAt b j := by
  rcases fin3 k with rfl | rfl | rfl <;> rcases fin3 j with rfl | rfl | rfl <;> rfl
theorem upB_has {d0 d1 d2 m : Int} {b : Bx} {z : Int} {k : Fin 3} : hasB d0 d1 d2 (upB b z k) m = true ↔
    hasS (dimAt d0 d1 d2 k) (bAt b k) z (coK d0 d1 m k) = true ∧ ∀ j, j ≠ k → hasS (dimAt d0 d1 d2 j) (bAt b j) (sAt b j) (coK d0 d1 m j) = true := by
  rw [hasB_iff]
  constructor
  · intro h
    refine ⟨?_, fun j hj => ?_⟩
    · have := h k
      rw [upB_b, upB_s, if_pos rfl] at this
      exact this
    · have := h j
      rw [upB_b, upB_s, if_neg hj] at this
      exact this
  · rintro ⟨h1, h2⟩ j
    rw [upB_b, upB_s]
    by_cases hj : j = k
    · subst hj; rw [if_pos rfl]; exact h1
    · rw [if_neg hj]; exact h2 j hj

/-- The cables that a box takes along an axis, from its lines' first midplanes on: those that go from the midplanes of a box. -/
theorem line_mem {d0 d1 d2 : Int} {b : Bx} (h : mayD d0 d1 d2) (hb : mayB d0 d1 d2 b) (k : Fin 3) {z : Int} (hz : 0 ≤ z ∧ z ≤ dimAt d0 d1 d2 k) {n : Int} :
    (∃ m, (0 ≤ m ∧ m < d0 * d1 * d2) ∧ hasB d0 d1 d2 b m = true ∧ coK d0 d1 m k = bAt b k ∧ n ∈ cablesW d0 d1 d2 m k z.toNat) ↔
    (1 < dimAt d0 d1 d2 k ∧ ∃ o, (0 ≤ o ∧ o < d0 * d1 * d2) ∧ hasB d0 d1 d2 (upB b z k) o = true ∧ n = cabW d0 d1 d2 k o) := by
  have hd := dimAt_ok h k
  unfold okD at hd
  have hbk := (mayB_at hb k).2
  constructor
  · rintro ⟨m, hm, hbm, hco, hn⟩
    obtain ⟨h1, o, ho, rfl⟩ := cables_mem.1 hn
    obtain ⟨hoN, i, hi, e⟩ := nodes_mem.1 ho
    refine ⟨h1, (o : Int), ⟨by omega, hoN⟩, ?_, rfl⟩
    rw [upB_has]
    have hc := co_on h hm k (i : Int)
    rw [e] at hc
    refine ⟨?_, fun j hj => ?_⟩
    · rw [hasS_iff0 hz hbk (co_bd h ⟨by omega, hoN⟩ k)]
      refine ⟨(i : Int), by omega, by omega, ?_⟩
      rw [hc k, if_pos rfl, hco]
    · rw [hc j, if_neg hj]
      exact hasB_iff.1 hbm j
  · rintro ⟨h1, o, ho, hbo, rfl⟩
    obtain ⟨u1, u2⟩ := upB_has.1 hbo
    obtain ⟨i, i0, i1, hi⟩ := (hasS_iff0 hz hbk (co_bd h ho k)).1 u1
    have hm := on_node h ho k (-i)
    have hc := co_on h ho k (-i)
    have ek : coK d0 d1 (onD d0 d1 d2 o k (-i)) k = bAt b k := by
      rw [hc k, if_pos rfl, ← hi, Int.emod_add_emod, show bAt b k + i + -i = bAt b k by omega, Int.emod_eq_of_lt hbk.1 hbk.2]
    refine ⟨onD d0 d1 d2 o k (-i), hm, ?_, ek, ?_⟩
    · rw [hasB_iff]
      intro j
      by_cases hj : j = k
      · subst hj
        rw [ek]
        exact hasS_base (mayB_at hb j)
      · rw [hc j, if_neg hj]
        exact u2 j hj
    · refine cables_mem.2 ⟨h1, o.toNat, nodes_mem.2 ⟨by omega, i.toNat, by omega, ?_⟩, by rw [Int.toNat_of_nonneg ho.1]⟩
      rw [Int.toNat_of_nonneg i0, Int.toNat_of_nonneg ho.1, on_on h ho, show -i + i = 0 by omega]
      exact on_round h ho k 0 (.inl rfl)

/-- From how many midplanes of each of its lines the cables that a place takes go. -/
def runS (r s : Int) (t : Bool) : Int := if t = true then r else s - 1
theorem runS_bd {r s : Int} (t : Bool) (h : 1 ≤ s ∧ s ≤ r) : 0 ≤ runS r s t ∧ runS r s t ≤ r := by unfold runS; split <;> omega
def tK (t0 t1 t2 : Bool) (k : Fin 3) : Bool := match k with | 0 => t0 | 1 => t1 | 2 => t2

/-- A mesh takes none that it does not take as a torus. -/
theorem mesh_in {d0 d1 d2 m : Int} {b : Bx} (h : mayD d0 d1 d2) (hb : mayB d0 d1 d2 b) (hm : 0 ≤ m ∧ m < d0 * d1 * d2) (k : Fin 3) (t : Bool)
    (hu : hasB d0 d1 d2 (upB b (runS (dimAt d0 d1 d2 k) (sAt b k) false) k) m = true) : hasB d0 d1 d2 (upB b (runS (dimAt d0 d1 d2 k) (sAt b k) t) k) m = true := by
  obtain ⟨u1, u2⟩ := upB_has.1 hu
  refine upB_has.2 ⟨?_, u2⟩
  have hs := (mayB_at hb k).1
  have hbd := aft_bd (mayB_at hb k).2 (co_bd h hm k)
  have e0 : runS (dimAt d0 d1 d2 k) (sAt b k) false = sAt b k - 1 := by simp [runS]
  rw [e0] at u1
  unfold hasS at u1 ⊢
  rw [decide_eq_true_eq] at u1 ⊢
  unfold runS
  split <;> omega
/-- Both ends of a mesh's cable are its own. -/
theorem mesh_ends {d0 d1 d2 m : Int} {b : Bx} (h : mayD d0 d1 d2) (hb : mayB d0 d1 d2 b) (hm : 0 ≤ m ∧ m < d0 * d1 * d2) (k : Fin 3)
    (hu : hasB d0 d1 d2 (upB b (runS (dimAt d0 d1 d2 k) (sAt b k) false) k) m = true) : hasB d0 d1 d2 b m = true ∧ hasB d0 d1 d2 b (onD d0 d1 d2 m k 1) = true := by
  obtain ⟨u1, u2⟩ := upB_has.1 hu
  have hs := (mayB_at hb k).1
  have hbk := (mayB_at hb k).2
  have hco := co_bd h hm k
  have hc := co_on h hm k 1
  simp only [runS] at u1
  simp at u1
  constructor
  · rw [hasB_iff]
    intro j
    by_cases hj : j = k
    · subst hj
      simp only [hasS, decide_eq_true_eq] at u1 ⊢
      omega
    · exact u2 j hj
  · rw [hasB_iff]
    intro j
    by_cases hj : j = k
    · subst hj
      rw [hc j, if_pos rfl]
      obtain ⟨i, i0, i1, hi⟩ := (hasS_iff0 (by omega) hbk hco).1 u1
      rw [hasS_iff (mayB_at hb j) ⟨Int.emod_nonneg _ (by omega), Int.emod_lt_of_pos _ (by omega)⟩]
      refine ⟨i + 1, by omega, by omega, ?_⟩
      rw [← hi, Int.emod_add_emod, Int.add_assoc]
    · rw [hc j, if_neg hj]
      exact u2 j hj

/-- How many of a ring a side has. -/
theorem side_count : ∀ r : Nat, r < 17 → ∀ b : Nat, b < r → ∀ s : Nat, s < r + 1 → ((List.range r).filter fun j : Nat => hasS (r : Int) (b : Int) (s : Int) (j : Int)).length = s := by decide +kernel

end Go.Proofs.YtbedhpooeabehaaGreatDoor

/-
  Plain arithmetic of open sides (ahead of layer 14): as many one way as the other; toward two that have nothing in common together; how scattered what is free is, when a place is taken. No program is walked here.
-/
namespace Go.Proofs.YtbedhpooeabehaaGreatDoor
open Go Go.RowKit Go.Shelf

def cntB (b : Bool) : Int := if b then 1 else 0
theorem cntB_le {a b : Bool} (h : a = true → b = true) : cntB a ≤ cntB b := by
  cases a
  · cases b <;> simp [cntB]
  · rw [h rfl]; exact Int.le_refl _
theorem cntB_nn (a : Bool) : 0 ≤ cntB a := by cases a <;> simp [cntB]
/-- The midplanes; a sum over them. -/
def nodesI (N : Nat) : List Int := (List.range N).map fun m : Nat => (m : Int)
theorem nodesI_mem {N : Nat} {x : Int} : x ∈ nodesI N ↔ 0 ≤ x ∧ x < (N : Int) := by
  unfold nodesI
  simp only [List.mem_map, List.mem_range]
  constructor
  · rintro ⟨m, hm, rfl⟩; omega
  · rintro ⟨h1, h2⟩; exact ⟨x.toNat, by omega, by omega⟩
theorem nodesI_nodup (N : Nat) : (nodesI N).Nodup := by
  unfold nodesI
  refine List.pairwise_map.2 (List.nodup_range.imp fun h e => h (by omega))
def overI (N : Nat) (f : Int → Int) : Int := ((nodesI N).map f).sum
theorem sum_add (f g : Int → Int) : ∀ l : List Int, (l.map fun m => f m + g m).sum = (l.map f).sum + (l.map g).sum
  | [] => rfl
  | x :: l => by rw [List.map_cons, List.sum_cons, sum_add f g l, List.map_cons, List.sum_cons, List.map_cons, List.sum_cons]; omega
theorem sum_le {f g : Int → Int} : ∀ {l : List Int}, (∀ m ∈ l, f m ≤ g m) → (l.map f).sum ≤ (l.map g).sum
  | [], _ => Int.le_refl _
  | x :: l, h => by
    rw [List.map_cons, List.sum_cons, List.map_cons, List.sum_cons]
    have := h x (by simp)
    have := sum_le (l := l) (f := f) (g := g) fun m hm => h m (by simp [hm])
    omega
theorem sum_perm {a b : List Int} (h : a.Perm b) : a.sum = b.sum := by
  induction h with
  | nil => rfl
  | cons x _ ih => rw [List.sum_cons, List.sum_cons, ih]
  | swap x y l => rw [List.sum_cons, List.sum_cons, List.sum_cons, List.sum_cons]; omega
  | trans _ _ h1 h2 => exact h1.trans h2
theorem over_add (N : Nat) (f g : Int → Int) : overI N (fun m => f m + g m) = overI N f + overI N g := sum_add f g _
theorem over_le {N : Nat} {f g : Int → Int} (h : ∀ m, 0 ≤ m ∧ m < (N : Int) → f m ≤ g m) : overI N f ≤ overI N g := sum_le fun m hm => h m (nodesI_mem.1 hm)
theorem over_eq {N : Nat} {f g : Int → Int} (h : ∀ m, 0 ≤ m ∧ m < (N : Int) → f m = g m) : overI N f = overI N g := by
  unfold overI
  congr 1
  exact List.map_congr_left fun m hm => h m (nodesI_mem.1 hm)
theorem over_zero {N : Nat} {f : Int → Int} (h : ∀ m, 0 ≤ m ∧ m < (N : Int) → f m = 0) : overI N f = 0 := by
  rw [over_eq h]
  unfold overI
  induction nodesI N with
  | nil => rfl
  | cons x l ih => rw [List.map_cons, List.sum_cons, ih]; rfl
/-- A step leads each midplane to one, and each to another one. -/
theorem over_step {d0 d1 d2 : Int} (h : mayD d0 d1 d2) (k : Fin 3) (n : Int) (f : Int → Int) : overI (d0 * d1 * d2).toNat (fun m => f (onD d0 d1 d2 m k n)) = overI (d0 * d1 * d2).toNat f := by
  have hN := N_bd h
  have e : ((d0 * d1 * d2).toNat : Int) = d0 * d1 * d2 := Int.toNat_of_nonneg (by omega)
  have hp : ((nodesI (d0 * d1 * d2).toNat).map fun m => onD d0 d1 d2 m k n).Perm (nodesI (d0 * d1 * d2).toNat) := by
    refine (List.perm_ext_iff_of_nodup ?_ (nodesI_nodup _)).2 fun x => ?_
    · refine List.pairwise_map.2 ((nodesI_nodup _).imp_of_mem fun {a b} ha hb hab he => hab ?_)
      have ha := nodesI_mem.1 ha
      have hb := nodesI_mem.1 hb
      rw [e] at ha hb
      have h1 := on_on h ha k n (-n)
      have h2 := on_on h hb k n (-n)
      rw [he, h2, show n + -n = 0 by omega, on_round h hb k 0 (.inl rfl), on_round h ha k 0 (.inl rfl)] at h1
      exact h1.symm
    · rw [List.mem_map, nodesI_mem]
      constructor
      · rintro ⟨m, hm, rfl⟩
        have hm := nodesI_mem.1 hm
        rw [e] at hm ⊢
        exact on_node h hm k n
      · intro hx
        rw [e] at hx
        refine ⟨onD d0 d1 d2 x k (-n), nodesI_mem.2 (by rw [e]; exact on_node h hx k (-n)), ?_⟩
        rw [on_on h hx k (-n) n, show -n + n = 0 by omega, on_round h hx k 0 (.inl rfl)]
  have := sum_perm (hp.map f)
  rw [List.map_map] at this
  exact this

/-- The open sides of a midplane along an axis; of all. -/
def sideK (d0 d1 d2 : Int) (p q : Int → Bool) (k : Fin 3) (m : Int) : Int := if 1 < dimAt d0 d1 d2 k then cntB (p m && q (onD d0 d1 d2 m k 1)) + cntB (p m && q (onD d0 d1 d2 m k (-1))) else 0
def openK (d0 d1 d2 : Int) (p q : Int → Bool) (k : Fin 3) : Int := overI (d0 * d1 * d2).toNat (sideK d0 d1 d2 p q k)
def openS (d0 d1 d2 : Int) (p q : Int → Bool) : Int := openK d0 d1 d2 p q 0 + openK d0 d1 d2 p q 1 + openK d0 d1 d2 p q 2
theorem openK_sym {d0 d1 d2 : Int} (h : mayD d0 d1 d2) (p q : Int → Bool) (k : Fin 3) : openK d0 d1 d2 p q k = openK d0 d1 d2 q p k := by
  have hN := N_bd h
  have e : ((d0 * d1 * d2).toNat : Int) = d0 * d1 * d2 := Int.toNat_of_nonneg (by omega)
  unfold openK
  by_cases hk : 1 < dimAt d0 d1 d2 k
  · have e1 : ∀ p q : Int → Bool, sideK d0 d1 d2 p q k = fun m => cntB (p m && q (onD d0 d1 d2 m k 1)) + cntB (p m && q (onD d0 d1 d2 m k (-1))) := fun p q => by
      funext m; rw [sideK, if_pos hk]
    rw [e1, e1, over_add, over_add]
    have key : ∀ (p q : Int → Bool) (n : Int), overI (d0 * d1 * d2).toNat (fun m => cntB (p m && q (onD d0 d1 d2 m k n))) = overI (d0 * d1 * d2).toNat (fun m => cntB (q m && p (onD d0 d1 d2 m k (-n)))) := fun p q n => by
      rw [← over_step h k n (fun m => cntB (q m && p (onD d0 d1 d2 m k (-n))))]
      refine over_eq fun m hm => ?_
      rw [e] at hm
      rw [on_on h hm k n (-n), show n + -n = 0 by omega, on_round h hm k 0 (.inl rfl), Bool.and_comm]
    rw [key p q 1, key p q (-1), show -(-1 : Int) = 1 by rfl]
    omega
  · rw [over_zero fun m _ => by rw [sideK, if_neg hk], over_zero fun m _ => by rw [sideK, if_neg hk]]
/-- As many one way as the other. -/
theorem open_sym {d0 d1 d2 : Int} (h : mayD d0 d1 d2) (p q : Int → Bool) : openS d0 d1 d2 p q = openS d0 d1 d2 q p := by
  unfold openS
  rw [openK_sym h p q 0, openK_sym h p q 1, openK_sym h p q 2]
theorem openK_gen {d0 d1 d2 : Int} (h : mayD d0 d1 d2) {p q p' q' : Int → Bool} (k : Fin 3) (hp : ∀ m n, (0 ≤ m ∧ m < d0 * d1 * d2) → (0 ≤ n ∧ n < d0 * d1 * d2) → (p m && q n) = true → (p' m && q' n) = true) : openK d0 d1 d2 p q k ≤ openK d0 d1 d2 p' q' k := by
  have hN := N_bd h
  have e : ((d0 * d1 * d2).toNat : Int) = d0 * d1 * d2 := Int.toNat_of_nonneg (by omega)
  refine over_le fun m hm => ?_
  rw [e] at hm
  unfold sideK
  split
  · have := cntB_le (hp m _ hm (on_node h hm k 1))
    have := cntB_le (hp m _ hm (on_node h hm k (-1)))
    omega
  · exact Int.le_refl _
/-- Of more, toward more: no fewer. -/
theorem open_le {d0 d1 d2 : Int} (h : mayD d0 d1 d2) {p q p' q' : Int → Bool} (hp : ∀ m, (0 ≤ m ∧ m < d0 * d1 * d2) → p m = true → p' m = true) (hq : ∀ m, (0 ≤ m ∧ m < d0 * d1 * d2) → q m = true → q' m = true) : openS d0 d1 d2 p q ≤ openS d0 d1 d2 p' q' := by
  have g : ∀ k, openK d0 d1 d2 p q k ≤ openK d0 d1 d2 p' q' k := fun k => openK_gen h k fun m n hm hn hx => by
    rw [Bool.and_eq_true] at hx ⊢
    exact ⟨hp m hm hx.1, hq n hn hx.2⟩
  have := g 0
  have := g 1
  have := g 2
  unfold openS
  omega
theorem open_congr {d0 d1 d2 : Int} (h : mayD d0 d1 d2) {p q p' q' : Int → Bool} (hp : ∀ m, (0 ≤ m ∧ m < d0 * d1 * d2) → p m = p' m) (hq : ∀ m, (0 ≤ m ∧ m < d0 * d1 * d2) → q m = q' m) : openS d0 d1 d2 p q = openS d0 d1 d2 p' q' := by
  have h1 : openS d0 d1 d2 p q ≤ openS d0 d1 d2 p' q' := open_le h (fun m hm hx => by rw [← hp m hm]; exact hx) (fun m hm hx => by rw [← hq m hm]; exact hx)
  have h2 : openS d0 d1 d2 p' q' ≤ openS d0 d1 d2 p q := open_le h (fun m hm hx => by rw [hp m hm]; exact hx) (fun m hm hx => by rw [hq m hm]; exact hx)
  omega
theorem openK_two {d0 d1 d2 : Int} (p q r : Int → Bool) (k : Fin 3) :
    openK d0 d1 d2 p (fun m => q m || r m) k + openK d0 d1 d2 p (fun m => q m && r m) k = openK d0 d1 d2 p q k + openK d0 d1 d2 p r k := by
  unfold openK
  rw [← over_add, ← over_add]
  refine over_eq fun m _ => ?_
  unfold sideK
  split
  · have key : ∀ x a b : Bool, cntB (x && (a || b)) + cntB (x && (a && b)) = cntB (x && a) + cntB (x && b) := by
      intro x a b; cases x <;> cases a <;> cases b <;> rfl
    have k1 := key (p m) (q (onD d0 d1 d2 m k 1)) (r (onD d0 d1 d2 m k 1))
    have k2 := key (p m) (q (onD d0 d1 d2 m k (-1))) (r (onD d0 d1 d2 m k (-1)))
    dsimp only
    omega
  · rfl
/-- Toward two: those toward either, less those toward what is in both. -/
theorem open_two {d0 d1 d2 : Int} (p q r : Int → Bool) :
    openS d0 d1 d2 p (fun m => q m || r m) + openS d0 d1 d2 p (fun m => q m && r m) = openS d0 d1 d2 p q + openS d0 d1 d2 p r := by
  have h0 := openK_two (d0 := d0) (d1 := d1) (d2 := d2) p q r 0
  have h1 := openK_two (d0 := d0) (d1 := d1) (d2 := d2) p q r 1
  have h2 := openK_two (d0 := d0) (d1 := d1) (d2 := d2) p q r 2
  unfold openS
  omega
theorem open_nn {d0 d1 d2 : Int} (p q : Int → Bool) : 0 ≤ openS d0 d1 d2 p q := by
  have g : ∀ k, 0 ≤ openK d0 d1 d2 p q k := fun k => by
    have hz : overI (d0 * d1 * d2).toNat (fun _ => 0) = 0 := over_zero fun _ _ => rfl
    unfold openK
    rw [← hz]
    refine over_le fun m _ => ?_
    unfold sideK
    split
    · have := cntB_nn (p m && q (onD d0 d1 d2 m k 1))
      have := cntB_nn (p m && q (onD d0 d1 d2 m k (-1)))
      omega
    · exact Int.le_refl _
  have := g 0
  have := g 1
  have := g 2
  unfold openS
  omega
theorem open_none {d0 d1 d2 : Int} (h : mayD d0 d1 d2) (p : Int → Bool) {q : Int → Bool} (hq : ∀ m, (0 ≤ m ∧ m < d0 * d1 * d2) → q m = false) : openS d0 d1 d2 p q = 0 := by
  have e2 : openS d0 d1 d2 p q = openS d0 d1 d2 p (fun _ => false) := open_congr h (fun _ _ => rfl) hq
  have e3 : openS d0 d1 d2 p (fun _ => false) = 0 := by
    have g : ∀ k, openK d0 d1 d2 p (fun _ => false) k = 0 := fun k => over_zero fun m _ => by
      unfold sideK
      split
      · rw [Bool.and_false]; rfl
      · rfl
    unfold openS
    rw [g 0, g 1, g 2]; rfl
  rw [e2, e3]
/-- Toward two that have nothing in common. -/
theorem open_apart {d0 d1 d2 : Int} (h : mayD d0 d1 d2) (p : Int → Bool) {q r : Int → Bool} (hx : ∀ m, (0 ≤ m ∧ m < d0 * d1 * d2) → (q m && r m) = false) : openS d0 d1 d2 p (fun m => q m || r m) = openS d0 d1 d2 p q + openS d0 d1 d2 p r := by
  have h1 := open_two (d0 := d0) (d1 := d1) (d2 := d2) p q r
  rw [open_none h p hx] at h1
  omega
/-- How scattered what is free is. -/
def spreadS (d0 d1 d2 : Int) (q : Int → Bool) : Int := openS d0 d1 d2 (fun m => !q m) q
/-- When a place of free midplanes is taken it turns by its open sides toward what is free, less those toward what is not. -/
theorem spread_taken {d0 d1 d2 : Int} (h : mayD d0 d1 d2) {o q : Int → Bool} (hx : ∀ m, (0 ≤ m ∧ m < d0 * d1 * d2) → (o m && q m) = false) :
    spreadS d0 d1 d2 (fun m => o m || q m) = spreadS d0 d1 d2 q + openS d0 d1 d2 o (fun m => !(o m || q m)) - openS d0 d1 d2 o q := by
  have key : ∀ a b : Bool, (a && b) = false → (!b) = (!(a || b) || a) := by decide
  have a1 : openS d0 d1 d2 (fun m => !(o m || q m)) (fun m => o m || q m) = openS d0 d1 d2 (fun m => !(o m || q m)) o + openS d0 d1 d2 (fun m => !(o m || q m)) q := open_apart h _ hx
  have a2 : openS d0 d1 d2 (fun m => !(o m || q m)) o = openS d0 d1 d2 o (fun m => !(o m || q m)) := open_sym h _ _
  have a3 : openS d0 d1 d2 (fun m => !q m) q = openS d0 d1 d2 q (fun m => !(o m || q m) || o m) := by
    rw [open_sym h]
    exact open_congr h (fun _ _ => rfl) fun m hm => key _ _ (hx m hm)
  have a4 : openS d0 d1 d2 q (fun m => !(o m || q m) || o m) = openS d0 d1 d2 q (fun m => !(o m || q m)) + openS d0 d1 d2 q o := open_apart h q (q := fun m => !(o m || q m)) (r := o) fun m _ => by cases o m <;> simp
  have a5 : openS d0 d1 d2 q (fun m => !(o m || q m)) = openS d0 d1 d2 (fun m => !(o m || q m)) q := open_sym h _ _
  have a6 : openS d0 d1 d2 q o = openS d0 d1 d2 o q := open_sym h _ _
  show openS d0 d1 d2 (fun m => !(o m || q m)) (fun m => o m || q m) = openS d0 d1 d2 (fun m => !q m) q + openS d0 d1 d2 o (fun m => !(o m || q m)) - openS d0 d1 d2 o q
  omega
/-- A place's score: twice its open sides toward what is free and not its own, and its cables. -/
def scoreS (d0 d1 d2 : Int) (o q : Int → Bool) (c : Int) : Int := 2 * openS d0 d1 d2 o (fun m => !q m && !o m) + c
theorem score_more {d0 d1 d2 : Int} (h : mayD d0 d1 d2) {o q q' : Int → Bool} {c : Int} (hq : ∀ m, (0 ≤ m ∧ m < d0 * d1 * d2) → q m = true → q' m = true) : scoreS d0 d1 d2 o q' c ≤ scoreS d0 d1 d2 o q c ∧ c ≤ scoreS d0 d1 d2 o q' c := by
  have h1 : openS d0 d1 d2 o (fun m => !q' m && !o m) ≤ openS d0 d1 d2 o (fun m => !q m && !o m) := open_le h (fun _ _ hx => hx) fun m hm hx => by
    cases e : q m
    · cases eo : o m
      · rfl
      · simp [eo] at hx
    · simp [hq m hm e] at hx
  have h2 := open_nn (d0 := d0) (d1 := d1) (d2 := d2) o (fun m => !q' m && !o m)
  unfold scoreS
  omega
theorem score_rest {d0 d1 d2 : Int} (h : mayD d0 d1 d2) {o q : Int → Bool} {c : Int} (hq : ∀ m, (0 ≤ m ∧ m < d0 * d1 * d2) → q m = !o m) : scoreS d0 d1 d2 o q c = c := by
  unfold scoreS
  rw [open_none h o fun m hm => by rw [hq m hm]; cases o m <;> rfl]
  omega

end Go.Proofs.YtbedhpooeabehaaGreatDoor

/-
  Open sides as a program counts them (ahead of layer 14): midplane for midplane, axis for axis, one side and the other; what the sums come to, and how great they can be. No program is walked here.
-/
namespace Go.Proofs.YtbedhpooeabehaaGreatDoor
open Go Go.RowKit Go.Shelf

/-- A sum over the first midplanes. -/
def toI (f : Int → Int) : Nat → Int
  | 0 => 0
  | n + 1 => toI f n + f (n : Int)
theorem toI_over (f : Int → Int) : ∀ N : Nat, toI f N = overI N f
  | 0 => rfl
  | N + 1 => by
    have e : overI (N + 1) f = overI N f + f (N : Int) := by
      unfold overI nodesI
      rw [List.range_succ, List.map_append, List.map_append, List.sum_append]
      simp
    rw [toI, toI_over f N, e]
/-- What one midplane adds. -/
def sidesS (d0 d1 d2 : Int) (p q : Int → Bool) (m : Int) : Int := sideK d0 d1 d2 p q 0 m + sideK d0 d1 d2 p q 1 m + sideK d0 d1 d2 p q 2 m
theorem open_to (d0 d1 d2 : Int) (p q : Int → Bool) : toI (sidesS d0 d1 d2 p q) (d0 * d1 * d2).toNat = openS d0 d1 d2 p q := by
  rw [toI_over]
  unfold openS openK
  rw [← over_add, ← over_add]
  exact over_eq fun m _ => by rw [sidesS]
theorem cnt_bd (b : Bool) : 0 ≤ cntB b ∧ cntB b ≤ 1 := by cases b <;> simp [cntB]
theorem sideK_bd (d0 d1 d2 : Int) (p q : Int → Bool) (k : Fin 3) (m : Int) : 0 ≤ sideK d0 d1 d2 p q k m ∧ sideK d0 d1 d2 p q k m ≤ 2 := by
  have h1 := cnt_bd (p m && q (onD d0 d1 d2 m k 1))
  have h2 := cnt_bd (p m && q (onD d0 d1 d2 m k (-1)))
  unfold sideK
  split <;> omega
theorem sides_bd (d0 d1 d2 : Int) (p q : Int → Bool) (m : Int) : 0 ≤ sidesS d0 d1 d2 p q m ∧ sidesS d0 d1 d2 p q m ≤ 6 := by
  have h0 := sideK_bd d0 d1 d2 p q 0 m
  have h1 := sideK_bd d0 d1 d2 p q 1 m
  have h2 := sideK_bd d0 d1 d2 p q 2 m
  unfold sidesS
  omega
theorem to_bd (d0 d1 d2 : Int) (p q : Int → Bool) : ∀ n : Nat, 0 ≤ toI (sidesS d0 d1 d2 p q) n ∧ toI (sidesS d0 d1 d2 p q) n ≤ 6 * n
  | 0 => by simp [toI]
  | n + 1 => by
    have h1 := to_bd d0 d1 d2 p q n
    have h2 := sides_bd d0 d1 d2 p q n
    rw [toI]
    omega
theorem open_bd {d0 d1 d2 : Int} (h : mayD d0 d1 d2) (p q : Int → Bool) : 0 ≤ openS d0 d1 d2 p q ∧ openS d0 d1 d2 p q ≤ 24576 := by
  have hN := N_bd h
  have h1 := to_bd d0 d1 d2 p q (d0 * d1 * d2).toNat
  rw [open_to] at h1
  omega
/-- A midplane that is not in adds nothing; nor does an axis of one. -/
theorem side_out {d0 d1 d2 : Int} {p q : Int → Bool} {k : Fin 3} {m : Int} (h : p m = false) : sideK d0 d1 d2 p q k m = 0 := by
  unfold sideK
  rw [h]
  split <;> simp [cntB]
theorem side_one {d0 d1 d2 : Int} {p q : Int → Bool} {k : Fin 3} {m : Int} (h : dimAt d0 d1 d2 k ≤ 1) : sideK d0 d1 d2 p q k m = 0 := by
  unfold sideK
  rw [if_neg (by omega)]
theorem side_in {d0 d1 d2 : Int} {p q : Int → Bool} {k : Fin 3} {m : Int} (h : p m = true) (hk : 1 < dimAt d0 d1 d2 k) : sideK d0 d1 d2 p q k m = cntB (q (onD d0 d1 d2 m k 1)) + cntB (q (onD d0 d1 d2 m k (-1))) := by
  unfold sideK
  rw [if_pos hk, h, Bool.true_and, Bool.true_and]
/-- Of two that agree below how many there are. -/
theorem sides_congr {d0 d1 d2 : Int} (h : mayD d0 d1 d2) {p q p' q' : Int → Bool} {m : Int} (hm : 0 ≤ m ∧ m < d0 * d1 * d2) (hp : p m = p' m) (hq : ∀ x, (0 ≤ x ∧ x < d0 * d1 * d2) → q x = q' x) : sidesS d0 d1 d2 p q m = sidesS d0 d1 d2 p' q' m := by
  have g : ∀ k, sideK d0 d1 d2 p q k m = sideK d0 d1 d2 p' q' k m := fun k => by
    unfold sideK
    rw [hp, hq _ (on_node h hm k 1), hq _ (on_node h hm k (-1))]
  unfold sidesS
  rw [g 0, g 1, g 2]

end Go.Proofs.YtbedhpooeabehaaGreatDoor

/-
  Boxes that wrap, as plain arithmetic: sides on a ring, the midplanes of a box, when two meet, when one lies in another, when they are the same.
-/
import Derived.Test.YthakcjpipcmogaaPosMath
namespace Go.Proofs.Ythakcjpipcmogaa

/-- A box: where it begins, and how much it has along each axis. -/
structure Bx where
  x : Int
  y : Int
  z : Int
  a : Int
  b : Int
  c : Int
abbrev B6 (b : Bx) : Value := .agg #[.int .i64 b.x, .int .i64 b.y, .int .i64 b.z, .int .i64 b.a, .int .i64 b.b, .int .i64 b.c]

/-- A side: ring r, beginning at b, s of it. -/
def mayS (r b s : Int) : Prop := (1 ≤ s ∧ s ≤ r) ∧ (0 ≤ b ∧ b < r)
def maySB (r b s : Int) : Bool := decide (1 ≤ s) && (decide (s ≤ r) && (decide (0 ≤ b) && decide (b < r)))
theorem maySB_iff (r b s : Int) : maySB r b s = true ↔ mayS r b s := by simp [maySB, mayS, and_assoc]
def aft (r b k : Int) : Int := if b ≤ k then k - b else k - b + r
def hasS (r b s k : Int) : Bool := decide (aft r b k < s)
def meetS (r b s b' s' : Int) : Bool := hasS r b s b' || hasS r b' s' b
def inS (r b s b' s' : Int) : Bool := s' == r || decide (aft r b' b + s ≤ s')

theorem aft_bd {r b k : Int} (hb : 0 ≤ b ∧ b < r) (hk : 0 ≤ k ∧ k < r) : 0 ≤ aft r b k ∧ aft r b k < r := by unfold aft; split <;> omega
theorem aft_rem {r b k : Int} (hb : 0 ≤ b ∧ b < r) (hk : 0 ≤ k ∧ k < r) : (k - b + r) % r = aft r b k := by
  unfold aft
  split
  · rw [Int.add_emod_right, Int.emod_eq_of_lt (by omega) (by omega)]
  · rw [Int.emod_eq_of_lt (by omega) (by omega)]
theorem on_rem {r b k : Int} (hb : 0 ≤ b ∧ b < r) (hk : 0 ≤ k ∧ k < r) : (b + k) % r = if b + k < r then b + k else b + k - r := by
  split
  · rw [Int.emod_eq_of_lt (by omega) (by omega)]
  · rw [show b + k = (b + k - r) + r by omega, Int.add_emod_right, Int.emod_eq_of_lt (by omega) (by omega)]; omega

/-- What a side has, a step after another. -/
theorem hasS_iff {r b s k : Int} (h : mayS r b s) (hk : 0 ≤ k ∧ k < r) : hasS r b s k = true ↔ ∃ j, 0 ≤ j ∧ j < s ∧ (b + j) % r = k := by
  obtain ⟨⟨h1, h2⟩, h3, h4⟩ := h
  simp only [hasS, decide_eq_true_eq]
  constructor
  · intro ha
    refine ⟨aft r b k, (aft_bd ⟨h3, h4⟩ hk).1, ha, ?_⟩
    rw [on_rem ⟨h3, h4⟩ (aft_bd ⟨h3, h4⟩ hk)]
    unfold aft
    split <;> split <;> omega
  · rintro ⟨j, j0, j1, hj⟩
    rw [on_rem ⟨h3, h4⟩ ⟨j0, by omega⟩] at hj
    unfold aft
    split at hj <;> split <;> omega
theorem hasS_base {r b s : Int} (h : mayS r b s) : hasS r b s b = true := by
  obtain ⟨⟨h1, h2⟩, h3, h4⟩ := h
  simp [hasS, aft]; omega

theorem meetS_iff {r b s b' s' : Int} (h : mayS r b s) (h' : mayS r b' s') : meetS r b s b' s' = true ↔ ∃ k, (0 ≤ k ∧ k < r) ∧ hasS r b s k = true ∧ hasS r b' s' k = true := by
  have H := h
  have H' := h'
  obtain ⟨⟨h1, h2⟩, h3, h4⟩ := h
  obtain ⟨⟨g1, g2⟩, g3, g4⟩ := h'
  constructor
  · intro hm
    simp only [meetS, Bool.or_eq_true] at hm
    rcases hm with hm | hm
    · exact ⟨b', ⟨g3, g4⟩, hm, hasS_base H'⟩
    · exact ⟨b, ⟨h3, h4⟩, hasS_base H, hm⟩
  · rintro ⟨k, ⟨k0, k1⟩, ha, hb⟩
    simp only [meetS, hasS, Bool.or_eq_true, decide_eq_true_eq] at ha hb ⊢
    unfold aft at ha hb ⊢
    split at ha <;> split at hb <;> (split <;> split <;> omega)
theorem inS_iff {r b s b' s' : Int} (h : mayS r b s) (h' : mayS r b' s') : inS r b s b' s' = true ↔ ∀ k, (0 ≤ k ∧ k < r) → hasS r b s k = true → hasS r b' s' k = true := by
  obtain ⟨⟨h1, h2⟩, h3, h4⟩ := h
  obtain ⟨⟨g1, g2⟩, g3, g4⟩ := h'
  simp only [inS, hasS, Bool.or_eq_true, beq_iff_eq, decide_eq_true_eq]
  constructor
  · rintro hc k ⟨k0, k1⟩ ha
    unfold aft at ha hc ⊢
    split at ha <;> split at hc <;> split <;> omega
  · intro hall
    by_cases he : s' = r
    · exact .inl he
    · refine .inr ?_
      have h0 := hall b ⟨h3, h4⟩ (by unfold aft; split <;> omega)
      -- the coordinate behind the other side's last one
      have h2' := hall (if b' + s' < r then b' + s' else b' + s' - r) (by split <;> omega)
      unfold aft at h0 h2' ⊢
      split at h0 <;> split at h2' <;> split at h2' <;> split at h2' <;> (try split) <;> omega
theorem sameS_iff {r b s b' s' : Int} (h : mayS r b s) (h' : mayS r b' s') : (inS r b s b' s' = true ∧ inS r b' s' b s = true) ↔ s = s' ∧ (s = r ∨ b = b') := by
  obtain ⟨⟨h1, h2⟩, h3, h4⟩ := h
  obtain ⟨⟨g1, g2⟩, g3, g4⟩ := h'
  simp only [inS, Bool.or_eq_true, beq_iff_eq, decide_eq_true_eq]
  unfold aft
  constructor
  · rintro ⟨hx, hy⟩
    split at hx <;> split at hy <;> omega
  · rintro ⟨rfl, hx⟩
    split <;> split <;> omega
theorem meetS_sym (r b s b' s' : Int) : meetS r b s b' s' = meetS r b' s' b s := by simp [meetS, Bool.or_comm]
theorem inS_meetS {r b s b' s' : Int} (h : mayS r b s) (h' : mayS r b' s') (hi : inS r b s b' s' = true) : meetS r b s b' s' = true :=
  (meetS_iff h h').2 ⟨b, h.2, hasS_base h, (inS_iff h h').1 hi b h.2 (hasS_base h)⟩
theorem inS_size {r b s b' s' : Int} (h : mayS r b s) (h' : mayS r b' s') (hi : inS r b s b' s' = true) : s ≤ s' := by
  obtain ⟨⟨h1, h2⟩, h3, h4⟩ := h
  obtain ⟨⟨g1, g2⟩, g3, g4⟩ := h'
  simp only [inS, Bool.or_eq_true, beq_iff_eq, decide_eq_true_eq] at hi
  have := (aft_bd (r := r) (b := b') (k := b) ⟨g3, g4⟩ ⟨h3, h4⟩).1
  omega

def okDB (d0 d1 d2 : Int) : Bool := decide (1 ≤ d0) && decide (d0 ≤ 16) && (decide (1 ≤ d1) && decide (d1 ≤ 16)) && (decide (1 ≤ d2) && decide (d2 ≤ 16))
theorem okDB_iff (d0 d1 d2 : Int) : okDB d0 d1 d2 = true ↔ mayD d0 d1 d2 := by simp [okDB, mayD, okD, and_assoc]

/-- A box may be. -/
def mayB (d0 d1 d2 : Int) (b : Bx) : Prop := mayS d0 b.x b.a ∧ mayS d1 b.y b.b ∧ mayS d2 b.z b.c
def mayBB (d0 d1 d2 : Int) (b : Bx) : Bool := maySB d0 b.x b.a && maySB d1 b.y b.b && maySB d2 b.z b.c
theorem mayBB_iff (d0 d1 d2 : Int) (b : Bx) : mayBB d0 d1 d2 b = true ↔ mayB d0 d1 d2 b := by simp [mayBB, mayB, maySB_iff, and_assoc]
theorem mayBB_no {d0 d1 d2 : Int} {b : Bx} (h : ¬ mayB d0 d1 d2 b) : mayBB d0 d1 d2 b = false := by
  rw [← Bool.not_eq_true, mayBB_iff]; exact h

abbrev bAt (b : Bx) (k : Fin 3) : Int := dimAt b.x b.y b.z k
abbrev sAt (b : Bx) (k : Fin 3) : Int := dimAt b.a b.b b.c k
theorem mayB_at {d0 d1 d2 : Int} {b : Bx} (h : mayB d0 d1 d2 b) (k : Fin 3) : mayS (dimAt d0 d1 d2 k) (bAt b k) (sAt b k) := by
  match k with
  | 0 => exact h.1
  | 1 => exact h.2.1
  | 2 => exact h.2.2

def canonB (d0 d1 d2 : Int) (b : Bx) : Bx := ⟨if b.a = d0 then 0 else b.x, if b.b = d1 then 0 else b.y, if b.c = d2 then 0 else b.z, b.a, b.b, b.c⟩
theorem canon_may {d0 d1 d2 : Int} {b : Bx} (h : mayB d0 d1 d2 b) : mayB d0 d1 d2 (canonB d0 d1 d2 b) := by
  obtain ⟨⟨⟨h1, h2⟩, h3, h4⟩, ⟨⟨g1, g2⟩, g3, g4⟩, ⟨⟨k1, k2⟩, k3, k4⟩⟩ := h
  simp only [mayB, mayS, canonB]
  refine ⟨⟨⟨h1, h2⟩, ?_⟩, ⟨⟨g1, g2⟩, ?_⟩, ⟨⟨k1, k2⟩, ?_⟩⟩ <;> split <;> omega
theorem canon_canon (d0 d1 d2 : Int) (b : Bx) : canonB d0 d1 d2 (canonB d0 d1 d2 b) = canonB d0 d1 d2 b := by
  simp only [canonB, Bx.mk.injEq, and_true]
  refine ⟨?_, ?_, ?_⟩ <;> split <;> simp_all

def hasB (d0 d1 d2 : Int) (b : Bx) (m : Int) : Bool := hasS d0 b.x b.a (cx d0 m) && hasS d1 b.y b.b (cy d0 d1 m) && hasS d2 b.z b.c (cz d0 d1 m)
def meetB (d0 d1 d2 : Int) (a b : Bx) : Bool := meetS d0 a.x a.a b.x b.a && meetS d1 a.y a.b b.y b.b && meetS d2 a.z a.c b.z b.c
def inB (d0 d1 d2 : Int) (a b : Bx) : Bool := inS d0 a.x a.a b.x b.a && inS d1 a.y a.b b.y b.b && inS d2 a.z a.c b.z b.c

theorem hasB_num {d0 d1 d2 p q r : Int} {b : Bx} (h : mayD d0 d1 d2) (hp : inD d0 d1 d2 p q r) : hasB d0 d1 d2 b (numD d0 d1 p q r) = (hasS d0 b.x b.a p && hasS d1 b.y b.b q && hasS d2 b.z b.c r) := by
  obtain ⟨_, hx, hy, hz⟩ := node_of_in h hp
  rw [hasB, hx, hy, hz]

theorem meetB_iff {d0 d1 d2 : Int} {a b : Bx} (h : mayD d0 d1 d2) (ha : mayB d0 d1 d2 a) (hb : mayB d0 d1 d2 b) :
    meetB d0 d1 d2 a b = true ↔ ∃ m, (0 ≤ m ∧ m < d0 * d1 * d2) ∧ hasB d0 d1 d2 a m = true ∧ hasB d0 d1 d2 b m = true := by
  simp only [meetB, Bool.and_eq_true]
  rw [meetS_iff ha.1 hb.1, meetS_iff ha.2.1 hb.2.1, meetS_iff ha.2.2 hb.2.2]
  constructor
  · rintro ⟨⟨⟨p, hp, p1, p2⟩, q, hq, q1, q2⟩, r, hr, r1, r2⟩
    refine ⟨numD d0 d1 p q r, (node_of_in h ⟨hp, hq, hr⟩).1, ?_, ?_⟩
    · rw [hasB_num h ⟨hp, hq, hr⟩, p1, q1, r1]; rfl
    · rw [hasB_num h ⟨hp, hq, hr⟩, p2, q2, r2]; rfl
  · rintro ⟨m, hm, h1, h2⟩
    simp only [hasB, Bool.and_eq_true] at h1 h2
    obtain ⟨i0, i1, i2⟩ := inD_of_node h hm
    exact ⟨⟨⟨_, i0, h1.1.1, h2.1.1⟩, _, i1, h1.1.2, h2.1.2⟩, _, i2, h1.2, h2.2⟩

theorem inB_iff {d0 d1 d2 : Int} {a b : Bx} (h : mayD d0 d1 d2) (ha : mayB d0 d1 d2 a) (hb : mayB d0 d1 d2 b) :
    inB d0 d1 d2 a b = true ↔ ∀ m, (0 ≤ m ∧ m < d0 * d1 * d2) → hasB d0 d1 d2 a m = true → hasB d0 d1 d2 b m = true := by
  simp only [inB, Bool.and_eq_true]
  rw [inS_iff ha.1 hb.1, inS_iff ha.2.1 hb.2.1, inS_iff ha.2.2 hb.2.2]
  constructor
  · rintro ⟨⟨f0, f1⟩, f2⟩ m hm h1
    simp only [hasB, Bool.and_eq_true] at h1 ⊢
    obtain ⟨i0, i1, i2⟩ := inD_of_node h hm
    exact ⟨⟨f0 _ i0 h1.1.1, f1 _ i1 h1.1.2⟩, f2 _ i2 h1.2⟩
  · intro f
    have key : ∀ p q r, inD d0 d1 d2 p q r → hasS d0 a.x a.a p = true → hasS d1 a.y a.b q = true → hasS d2 a.z a.c r = true → hasS d0 b.x b.a p = true ∧ hasS d1 b.y b.b q = true ∧ hasS d2 b.z b.c r = true := by
      intro p q r hi h1 h2 h3
      have := f (numD d0 d1 p q r) (node_of_in h hi).1 (by rw [hasB_num h hi, h1, h2, h3]; rfl)
      rw [hasB_num h hi] at this
      simp only [Bool.and_eq_true] at this
      exact ⟨this.1.1, this.1.2, this.2⟩
    refine ⟨⟨fun k hk hx => ?_, fun k hk hx => ?_⟩, fun k hk hx => ?_⟩
    · exact (key k a.y a.z ⟨hk, ha.2.1.2, ha.2.2.2⟩ hx (hasS_base ha.2.1) (hasS_base ha.2.2)).1
    · exact (key a.x k a.z ⟨ha.1.2, hk, ha.2.2.2⟩ (hasS_base ha.1) hx (hasS_base ha.2.2)).2.1
    · exact (key a.x a.y k ⟨ha.1.2, ha.2.1.2, hk⟩ (hasS_base ha.1) (hasS_base ha.2.1) hx).2.2

theorem same_canon {d0 d1 d2 : Int} {a b : Bx} (ha : mayB d0 d1 d2 a) (hb : mayB d0 d1 d2 b) :
    (inB d0 d1 d2 a b = true ∧ inB d0 d1 d2 b a = true) ↔ canonB d0 d1 d2 a = canonB d0 d1 d2 b := by
  have k0 := sameS_iff ha.1 hb.1
  have k1 := sameS_iff ha.2.1 hb.2.1
  have k2 := sameS_iff ha.2.2 hb.2.2
  simp only [inB, Bool.and_eq_true]
  have : ((inS d0 a.x a.a b.x b.a = true ∧ inS d1 a.y a.b b.y b.b = true) ∧ inS d2 a.z a.c b.z b.c = true) ∧ ((inS d0 b.x b.a a.x a.a = true ∧ inS d1 b.y b.b a.y a.b = true) ∧ inS d2 b.z b.c a.z a.c = true) ↔
      (a.a = b.a ∧ (a.a = d0 ∨ a.x = b.x)) ∧ (a.b = b.b ∧ (a.b = d1 ∨ a.y = b.y)) ∧ (a.c = b.c ∧ (a.c = d2 ∨ a.z = b.z)) := by
    rw [← k0, ← k1, ← k2]
    constructor
    · rintro ⟨⟨⟨x1, x2⟩, x3⟩, ⟨y1, y2⟩, y3⟩; exact ⟨⟨x1, y1⟩, ⟨x2, y2⟩, x3, y3⟩
    · rintro ⟨⟨x1, y1⟩, ⟨x2, y2⟩, x3, y3⟩; exact ⟨⟨⟨x1, x2⟩, x3⟩, ⟨y1, y2⟩, y3⟩
  rw [this]
  simp only [canonB, Bx.mk.injEq]
  constructor
  · rintro ⟨⟨e0, f0⟩, ⟨e1, f1⟩, e2, f2⟩
    refine ⟨?_, ?_, ?_, e0, e1, e2⟩
    · rcases f0 with f | f <;> simp [← e0, f]
    · rcases f1 with f | f <;> simp [← e1, f]
    · rcases f2 with f | f <;> simp [← e2, f]
  · rintro ⟨f0, f1, f2, e0, e1, e2⟩
    refine ⟨⟨e0, ?_⟩, ⟨e1, ?_⟩, e2, ?_⟩
    · by_cases h : a.a = d0
      · exact .inl h
      · rw [← e0, if_neg h, if_neg h] at f0; exact .inr f0
    · by_cases h : a.b = d1
      · exact .inl h
      · rw [← e1, if_neg h, if_neg h] at f1; exact .inr f1
    · by_cases h : a.c = d2
      · exact .inl h
      · rw [← e2, if_neg h, if_neg h] at f2; exact .inr f2

theorem meetB_sym (d0 d1 d2 : Int) (a b : Bx) : meetB d0 d1 d2 a b = meetB d0 d1 d2 b a := by
  simp only [meetB, meetS_sym d0 a.x, meetS_sym d1 a.y, meetS_sym d2 a.z]
theorem inB_meetB {d0 d1 d2 : Int} {a b : Bx} (ha : mayB d0 d1 d2 a) (hb : mayB d0 d1 d2 b) (h : inB d0 d1 d2 a b = true) : meetB d0 d1 d2 a b = true := by
  simp only [inB, meetB, Bool.and_eq_true] at h ⊢
  exact ⟨⟨inS_meetS ha.1 hb.1 h.1.1, inS_meetS ha.2.1 hb.2.1 h.1.2⟩, inS_meetS ha.2.2 hb.2.2 h.2⟩
def manyB (b : Bx) : Int := b.a * b.b * b.c
theorem inB_many {d0 d1 d2 : Int} {a b : Bx} (ha : mayB d0 d1 d2 a) (hb : mayB d0 d1 d2 b) (h : inB d0 d1 d2 a b = true) : manyB a ≤ manyB b := by
  simp only [inB, Bool.and_eq_true] at h
  have h0 := inS_size ha.1 hb.1 h.1.1
  have h1 := inS_size ha.2.1 hb.2.1 h.1.2
  have h2 := inS_size ha.2.2 hb.2.2 h.2
  have p0 : 0 ≤ a.a := by have := ha.1.1; omega
  have p1 : 0 ≤ a.b := by have := ha.2.1.1; omega
  have p2 : 0 ≤ a.c := by have := ha.2.2.1; omega
  unfold manyB
  exact Int.mul_le_mul (Int.mul_le_mul h0 h1 p1 (by omega)) h2 p2 (Int.mul_nonneg (by omega) (by omega))

end Go.Proofs.Ythakcjpipcmogaa

/-
  Boxes that wrap, as plain arithmetic: sides on a ring, the midplanes of a box, when two meet, when one lies in another, when they are the same.
-/
import Derived.Test.YtjmfdpilmljppaaPart1
import Derived.Test.YtjmfdpilmljppaaProg
import Derived.StillTail
import Derived.OrdersIn
import Derived.BigQuiet
namespace Go.Proofs.Ytjmfdpilmljppaa

/-- A box: where it begins, and how much it has along each axis. -/
structure Bx where
  x : Int
  y : Int
  z : Int
  a : Int
  b : Int
  c : Int
abbrev B6 (b : Bx) : Value := .agg #[.int .i64 b.x, .int .i64 b.y, .int .i64 b.z, .int .i64 b.a, .int .i64 b.b, .int .i64 b.c]

/-- A side: ring r, beginning at b, s of it. -/
def mayS (r b s : Int) : Prop := (1 ≤ s ∧ s ≤ r) ∧ (0 ≤ b ∧ b < r)
def maySB (r b s : Int) : Bool := decide (1 ≤ s) && (decide (s ≤ r) && (decide (0 ≤ b) && decide (b < r)))
theorem maySB_iff (r b s : Int) : maySB r b s = true ↔ mayS r b s := by simp [maySB, mayS, and_assoc]
def aft (r b k : Int) : Int := if b ≤ k then k - b else k - b + r
def hasS (r b s k : Int) : Bool := decide (aft r b k < s)
def meetS (r b s b' s' : Int) : Bool := hasS r b s b' || hasS r b' s' b
def inS (r b s b' s' : Int) : Bool := s' == r || decide (aft r b' b + s ≤ s')

theorem aft_bd {r b k : Int} (hb : 0 ≤ b ∧ b < r) (hk : 0 ≤ k ∧ k < r) : 0 ≤ aft r b k ∧ aft r b k < r := by unfold aft; split <;> omega
theorem aft_rem {r b k : Int} (hb : 0 ≤ b ∧ b < r) (hk : 0 ≤ k ∧ k < r) : (k - b + r) % r = aft r b k := by
  unfold aft
  split
  · rw [Int.add_emod_right, Int.emod_eq_of_lt (by omega) (by omega)]
  · rw [Int.emod_eq_of_lt (by omega) (by omega)]
theorem on_rem {r b k : Int} (hb : 0 ≤ b ∧ b < r) (hk : 0 ≤ k ∧ k < r) : (b + k) % r = if b + k < r then b + k else b + k - r := by
  split
  · rw [Int.emod_eq_of_lt (by omega) (by omega)]
  · rw [show b + k = (b + k - r) + r by omega, Int.add_emod_right, Int.emod_eq_of_lt (by omega) (by omega)]; omega

/-- What a side has, a step after another. -/
theorem hasS_iff {r b s k : Int} (h : mayS r b s) (hk : 0 ≤ k ∧ k < r) : hasS r b s k = true ↔ ∃ j, 0 ≤ j ∧ j < s ∧ (b + j) % r = k := by
  obtain ⟨⟨h1, h2⟩, h3, h4⟩ := h
  simp only [hasS, decide_eq_true_eq]
  constructor
  · intro ha
    refine ⟨aft r b k, (aft_bd ⟨h3, h4⟩ hk).1, ha, ?_⟩
    rw [on_rem ⟨h3, h4⟩ (aft_bd ⟨h3, h4⟩ hk)]
    unfold aft
    split <;> split <;> omega
  · rintro ⟨j, j0, j1, hj⟩
    rw [on_rem ⟨h3, h4⟩ ⟨j0, by omega⟩] at hj
    unfold aft
    split at hj <;> split <;> omega
theorem hasS_base {r b s : Int} (h : mayS r b s) : hasS r b s b = true := by
  obtain ⟨⟨h1, h2⟩, h3, h4⟩ := h
  simp [hasS, aft]; omega

theorem meetS_iff {r b s b' s' : Int} (h : mayS r b s) (h' : mayS r b' s') : meetS r b s b' s' = true ↔ ∃ k, (0 ≤ k ∧ k < r) ∧ hasS r b s k = true ∧ hasS r b' s' k = true := by
  have H := h
  have H' := h'
  obtain ⟨⟨h1, h2⟩, h3, h4⟩ := h
  obtain ⟨⟨g1, g2⟩, g3, g4⟩ := h'
  constructor
  · intro hm
    simp only [meetS, Bool.or_eq_true] at hm
    rcases hm with hm | hm
    · exact ⟨b', ⟨g3, g4⟩, hm, hasS_base H'⟩
    · exact ⟨b, ⟨h3, h4⟩, hasS_base H, hm⟩
  · rintro ⟨k, ⟨k0, k1⟩, ha, hb⟩
    simp only [meetS, hasS, Bool.or_eq_true, decide_eq_true_eq] at ha hb ⊢
    unfold aft at ha hb ⊢
    split at ha <;> split at hb <;> (split <;> split <;> omega)
theorem inS_iff {r b s b' s' : Int} (h : mayS r b s) (h' : mayS r b' s') : inS r b s b' s' = true ↔ ∀ k, (0 ≤ k ∧ k < r) → hasS r b s k = true → hasS r b' s' k = true := by
  obtain ⟨⟨h1, h2⟩, h3, h4⟩ := h
  obtain ⟨⟨g1, g2⟩, g3, g4⟩ := h'
  simp only [inS, hasS, Bool.or_eq_true, beq_iff_eq, decide_eq_true_eq]
  constructor
  · rintro hc k ⟨k0, k1⟩ ha
    unfold aft at ha hc ⊢
    split at ha <;> split at hc <;> split <;> omega
  · intro hall
    by_cases he : s' = r
    · exact .inl he
    · refine .inr ?_
      have h0 := hall b ⟨h3, h4⟩ (by unfold aft; split <;> omega)
      -- the coordinate behind the other side's last one
      have h2' := hall (if b' + s' < r then b' + s' else b' + s' - r) (by split <;> omega)
      unfold aft at h0 h2' ⊢
      split at h0 <;> split at h2' <;> split at h2' <;> split at h2' <;> (try split) <;> omega
theorem sameS_iff {r b s b' s' : Int} (h : mayS r b s) (h' : mayS r b' s') : (inS r b s b' s' = true ∧ inS r b' s' b s = true) ↔ s = s' ∧ (s = r ∨ b = b') := by
  obtain ⟨⟨h1, h2⟩, h3, h4⟩ := h
  obtain ⟨⟨g1, g2⟩, g3, g4⟩ := h'
  simp only [inS, Bool.or_eq_true, beq_iff_eq, decide_eq_true_eq]
  unfold aft
  constructor
  · rintro ⟨hx, hy⟩
    split at hx <;> split at hy <;> omega
  · rintro ⟨rfl, hx⟩
    split <;> split <;> omega
theorem meetS_sym (r b s b' s' : Int) : meetS r b s b' s' = meetS r b' s' b s := by simp [meetS, Bool.or_comm]
theorem inS_meetS {r b s b' s' : Int} (h : mayS r b s) (h' : mayS r b' s') (hi : inS r b s b' s' = true) : meetS r b s b' s' = true :=
  (meetS_iff h h').2 ⟨b, h.2, hasS_base h, (inS_iff h h').1 hi b h.2 (hasS_base h)⟩
theorem inS_size {r b s b' s' : Int} (h : mayS r b s) (h' : mayS r b' s') (hi : inS r b s b' s' = true) : s ≤ s' := by
  obtain ⟨⟨h1, h2⟩, h3, h4⟩ := h
  obtain ⟨⟨g1, g2⟩, g3, g4⟩ := h'
  simp only [inS, Bool.or_eq_true, beq_iff_eq, decide_eq_true_eq] at hi
  have := (aft_bd (r := r) (b := b') (k := b) ⟨g3, g4⟩ ⟨h3, h4⟩).1
  omega

def okDB (d0 d1 d2 : Int) : Bool := decide (1 ≤ d0) && decide (d0 ≤ 16) && (decide (1 ≤ d1) && decide (d1 ≤ 16)) && (decide (1 ≤ d2) && decide (d2 ≤ 16))
theorem okDB_iff (d0 d1 d2 : Int) : okDB d0 d1 d2 = true ↔ mayD d0 d1 d2 := by simp [okDB, mayD, okD, and_assoc]

/-- A box may be. -/
def mayB (d0 d1 d2 : Int) (b : Bx) : Prop := mayS d0 b.x b.a ∧ mayS d1 b.y b.b ∧ mayS d2 b.z b.c
def mayBB (d0 d1 d2 : Int) (b : Bx) : Bool := maySB d0 b.x b.a && maySB d1 b.y b.b && maySB d2 b.z b.c
theorem mayBB_iff (d0 d1 d2 : Int) (b : Bx) : mayBB d0 d1 d2 b = true ↔ mayB d0 d1 d2 b := by simp [mayBB, mayB, maySB_iff, and_assoc]
theorem mayBB_no {d0 d1 d2 : Int} {b : Bx} (h : ¬ mayB d0 d1 d2 b) : mayBB d0 d1 d2 b = false := by
  rw [← Bool.not_eq_true, mayBB_iff]; exact h

abbrev bAt (b : Bx) (k : Fin 3) : Int := dimAt b.x b.y b.z k
abbrev sAt (b : Bx) (k : Fin 3) : Int := dimAt b.a b.b b.c k
theorem mayB_at {d0 d1 d2 : Int} {b : Bx} (h : mayB d0 d1 d2 b) (k : Fin 3) : mayS (dimAt d0 d1 d2 k) (bAt b k) (sAt b k) := by
  match k with
  | 0 => exact h.1
  | 1 => exact h.2.1
  | 2 => exact h.2.2

def canonB (d0 d1 d2 : Int) (b : Bx) : Bx := ⟨if b.a = d0 then 0 else b.x, if b.b = d1 then 0 else b.y, if b.c = d2 then 0 else b.z, b.a, b.b, b.c⟩
theorem canon_may {d0 d1 d2 : Int} {b : Bx} (h : mayB d0 d1 d2 b) : mayB d0 d1 d2 (canonB d0 d1 d2 b) := by
  obtain ⟨⟨⟨h1, h2⟩, h3, h4⟩, ⟨⟨g1, g2⟩, g3, g4⟩, ⟨⟨k1, k2⟩, k3, k4⟩⟩ := h
  simp only [mayB, mayS, canonB]
  refine ⟨⟨⟨h1, h2⟩, ?_⟩, ⟨⟨g1, g2⟩, ?_⟩, ⟨⟨k1, k2⟩, ?_⟩⟩ <;> split <;> omega
theorem canon_canon (d0 d1 d2 : Int) (b : Bx) : canonB d0 d1 d2 (canonB d0 d1 d2 b) = canonB d0 d1 d2 b := by
  simp only [canonB, Bx.mk.injEq, and_true]
  refine ⟨?_, ?_, ?_⟩ <;> split <;> simp_all

def hasB (d0 d1 d2 : Int) (b : Bx) (m : Int) : Bool := hasS d0 b.x b.a (cx d0 m) && hasS d1 b.y b.b (cy d0 d1 m) && hasS d2 b.z b.c (cz d0 d1 m)
def meetB (d0 d1 d2 : Int) (a b : Bx) : Bool := meetS d0 a.x a.a b.x b.a && meetS d1 a.y a.b b.y b.b && meetS d2 a.z a.c b.z b.c
def inB (d0 d1 d2 : Int) (a b : Bx) : Bool := inS d0 a.x a.a b.x b.a && inS d1 a.y a.b b.y b.b && inS d2 a.z a.c b.z b.c

theorem hasB_num {d0 d1 d2 p q r : Int} {b : Bx} (h : mayD d0 d1 d2) (hp : inD d0 d1 d2 p q r) : hasB d0 d1 d2 b (numD d0 d1 p q r) = (hasS d0 b.x b.a p && hasS d1 b.y b.b q && hasS d2 b.z b.c r) := by
  obtain ⟨_, hx, hy, hz⟩ := node_of_in h hp
  rw [hasB, hx, hy, hz]

theorem meetB_iff {d0 d1 d2 : Int} {a b : Bx} (h : mayD d0 d1 d2) (ha : mayB d0 d1 d2 a) (hb : mayB d0 d1 d2 b) :
    meetB d0 d1 d2 a b = true ↔ ∃ m, (0 ≤ m ∧ m < d0 * d1 * d2) ∧ hasB d0 d1 d2 a m = true ∧ hasB d0 d1 d2 b m = true := by
  simp only [meetB, Bool.and_eq_true]
  rw [meetS_iff ha.1 hb.1, meetS_iff ha.2.1 hb.2.1, meetS_iff ha.2.2 hb.2.2]
  constructor
  · rintro ⟨⟨⟨p, hp, p1, p2⟩, q, hq, q1, q2⟩, r, hr, r1, r2⟩
    refine ⟨numD d0 d1 p q r, (node_of_in h ⟨hp, hq, hr⟩).1, ?_, ?_⟩
    · rw [hasB_num h ⟨hp, hq, hr⟩, p1, q1, r1]; rfl
    · rw [hasB_num h ⟨hp, hq, hr⟩, p2, q2, r2]; rfl
  · rintro ⟨m, hm, h1, h2⟩
    simp only [hasB, Bool.and_eq_true] at h1 h2
    obtain ⟨i0, i1, i2⟩ := inD_of_node h hm
    exact ⟨⟨⟨_, i0, h1.1.1, h2.1.1⟩, _, i1, h1.1.2, h2.1.2⟩, _, i2, h1.2, h2.2⟩

theorem inB_iff {d0 d1 d2 : Int} {a b : Bx} (h : mayD d0 d1 d2) (ha : mayB d0 d1 d2 a) (hb : mayB d0 d1 d2 b) :
    inB d0 d1 d2 a b = true ↔ ∀ m, (0 ≤ m ∧ m < d0 * d1 * d2) → hasB d0 d1 d2 a m = true → hasB d0 d1 d2 b m = true := by
  simp only [inB, Bool.and_eq_true]
  rw [inS_iff ha.1 hb.1, inS_iff ha.2.1 hb.2.1, inS_iff ha.2.2 hb.2.2]
  constructor
  · rintro ⟨⟨f0, f1⟩, f2⟩ m hm h1
    simp only [hasB, Bool.and_eq_true] at h1 ⊢
    obtain ⟨i0, i1, i2⟩ := inD_of_node h hm
    exact ⟨⟨f0 _ i0 h1.1.1, f1 _ i1 h1.1.2⟩, f2 _ i2 h1.2⟩
  · intro f
    have key : ∀ p q r, inD d0 d1 d2 p q r → hasS d0 a.x a.a p = true → hasS d1 a.y a.b q = true → hasS d2 a.z a.c r = true → hasS d0 b.x b.a p = true ∧ hasS d1 b.y b.b q = true ∧ hasS d2 b.z b.c r = true := by
      intro p q r hi h1 h2 h3
      have := f (numD d0 d1 p q r) (node_of_in h hi).1 (by rw [hasB_num h hi, h1, h2, h3]; rfl)
      rw [hasB_num h hi] at this
      simp only [Bool.and_eq_true] at this
      exact ⟨this.1.1, this.1.2, this.2⟩
    refine ⟨⟨fun k hk hx => ?_, fun k hk hx => ?_⟩, fun k hk hx => ?_⟩
    · exact (key k a.y a.z ⟨hk, ha.2.1.2, ha.2.2.2⟩ hx (hasS_base ha.2.1) (hasS_base ha.2.2)).1
    · exact (key a.x k a.z ⟨ha.1.2, hk, ha.2.2.2⟩ (hasS_base ha.1) hx (hasS_base ha.2.2)).2.1
    · exact (key a.x a.y k ⟨ha.1.2, ha.2.1.2, hk⟩ (hasS_base ha.1) (hasS_base ha.2.1) hx).2.2

theorem same_canon {d0 d1 d2 : Int} {a b : Bx} (ha : mayB d0 d1 d2 a) (hb : mayB d0 d1 d2 b) :
    (inB d0 d1 d2 a b = true ∧ inB d0 d1 d2 b a = true) ↔ canonB d0 d1 d2 a = canonB d0 d1 d2 b := by
  have k0 := sameS_iff ha.1 hb.1
  have k1 := sameS_iff ha.2.1 hb.2.1
  have k2 := sameS_iff ha.2.2 hb.2.2
  simp only [inB, Bool.and_eq_true]
  have : ((inS d0 a.x a.a b.x b.a = true ∧ inS d1 a.y a.b b.y b.b = true) ∧ inS d2 a.z a.c b.z b.c = true) ∧ ((inS d0 b.x b.a a.x a.a = true ∧ inS d1 b.y b.b a.y a.b = true) ∧ inS d2 b.z b.c a.z a.c = true) ↔
      (a.a = b.a ∧ (a.a = d0 ∨ a.x = b.x)) ∧ (a.b = b.b ∧ (a.b = d1 ∨ a.y = b.y)) ∧ (a.c = b.c ∧ (a.c = d2 ∨ a.z = b.z)) := by
    rw [← k0, ← k1, ← k2]
    constructor
    · rintro ⟨⟨⟨x1, x2⟩, x3⟩, ⟨y1, y2⟩, y3⟩; exact ⟨⟨x1, y1⟩, ⟨x2, y2⟩, x3, y3⟩
    · rintro ⟨⟨x1, y1⟩, ⟨x2, y2⟩, x3, y3⟩; exact ⟨⟨⟨x1, x2⟩, x3⟩, ⟨y1, y2⟩, y3⟩
  rw [this]
  simp only [canonB, Bx.mk.injEq]
  constructor
  · rintro ⟨⟨e0, f0⟩, ⟨e1, f1⟩, e2, f2⟩
    refine ⟨?_, ?_, ?_, e0, e1, e2⟩
    · rcases f0 with f | f <;> simp [← e0, f]
    · rcases f1 with f | f <;> simp [← e1, f]
    · rcases f2 with f | f <;> simp [← e2, f]
  · rintro ⟨f0, f1, f2, e0, e1, e2⟩
    refine ⟨⟨e0, ?_⟩, ⟨e1, ?_⟩, e2, ?_⟩
    · by_cases h : a.a = d0
      · exact .inl h
      · rw [← e0, if_neg h, if_neg h] at f0; exact .inr f0
    · by_cases h : a.b = d1
      · exact .inl h
      · rw [← e1, if_neg h, if_neg h] at f1; exact .inr f1
    · by_cases h : a.c = d2
      · exact .inl h
      · rw [← e2, if_neg h, if_neg h] at f2; exact .inr f2

theorem meetB_sym (d0 d1 d2 : Int) (a b : Bx) : meetB d0 d1 d2 a b = meetB d0 d1 d2 b a := by
  simp only [meetB, meetS_sym d0 a.x, meetS_sym d1 a.y, meetS_sym d2 a.z]
theorem inB_meetB {d0 d1 d2 : Int} {a b : Bx} (ha : mayB d0 d1 d2 a) (hb : mayB d0 d1 d2 b) (h : inB d0 d1 d2 a b = true) : meetB d0 d1 d2 a b = true := by
  simp only [inB, meetB, Bool.and_eq_true] at h ⊢
  exact ⟨⟨inS_meetS ha.1 hb.1 h.1.1, inS_meetS ha.2.1 hb.2.1 h.1.2⟩, inS_meetS ha.2.2 hb.2.2 h.2⟩
def manyB (b : Bx) : Int := b.a * b.b * b.c
theorem inB_many {d0 d1 d2 : Int} {a b : Bx} (ha : mayB d0 d1 d2 a) (hb : mayB d0 d1 d2 b) (h : inB d0 d1 d2 a b = true) : manyB a ≤ manyB b := by
  simp only [inB, Bool.and_eq_true] at h
  have h0 := inS_size ha.1 hb.1 h.1.1
  have h1 := inS_size ha.2.1 hb.2.1 h.1.2
  have h2 := inS_size ha.2.2 hb.2.2 h.2
  have p0 : 0 ≤ a.a := by have := ha.1.1; omega
  have p1 : 0 ≤ a.b := by have := ha.2.1.1; omega
  have p2 : 0 ≤ a.c := by have := ha.2.2.1; omega
  unfold manyB
  exact Int.mul_le_mul (Int.mul_le_mul h0 h1 p1 (by omega)) h2 p2 (Int.mul_nonneg (by omega) (by omega))

end Go.Proofs.Ytjmfdpilmljppaa

/-
  pos.axes hands out the three axes, each with its stride, and stops where a round says so; whatever dimensions it is given.
-/
namespace Go.Proofs.Ytjmfdpilmljppaa
open Go.RowKit Go.Shelf

attribute [local go_sem] Oper.semAt_some

def axI (k : Fin 3) : Int := match k with | 0 => 0 | 1 => 1 | 2 => 2
abbrev axEnc (d0 d1 : Int) (k : Fin 3) : Array Value := #[.int .i64 (axI k), .int .i64 (strd d0 d1 k)]

theorem fin3 : ∀ x : Fin 3, x = 0 ∨ x = 1 ∨ x = 2 := by decide

theorem axes_in (F : Fence) (n : Nat) (hF : F.fn 75) (hro : F.round = none) (d0 d1 d2 : Int) (w : World) :
    CallsIn F n Try.prog 75 #[A3 d0 d1 d2] w fun e w' => e = .returned (.func (.func 89) #[] #[.pointer (some ⟨w.heap.size, 0, none⟩)]) ∧ w' = w.alloc (.cells #[I d0, I d1, I d2] 26) := by
  refine callsIn_of_wp Try.func75 rfl hF ?_ hro
  simp only [Try.ntmps75, List.size_toArray, List.length_cons, List.length_nil, Nat.reduceAdd, Nat.reduceSub, Array.replicate_succ, Array.replicate_zero, List.push_toArray, List.append_toArray, List.nil_append, List.cons_append]
  gi_wp2
  go_ret
  exact ⟨rfl, rfl⟩

set_option maxRecDepth 100000 in
set_option maxHeartbeats 2000000 in
theorem axes_stops (F : Fence) (n : Nat) (hF : F.fn 89) (hro : F.round = none) (hn : 1 ≤ n) (Bn : Nat) (d0 d1 d2 : Int) (w : World)
    (hlt : Bn < w.heap.size) (h0 : w.cell? ⟨Bn, 0, none⟩ = some (I d0)) (h1 : w.cell? ⟨Bn, 1, none⟩ = some (I d1)) (h2 : w.cell? ⟨Bn, 2, none⟩ = some (I d2)) :
    SeqStopsK F n Try.prog 89 #[.pointer (some ⟨Bn, 0, none⟩)] (axEnc d0 d1) (fun _ _ => True) (fun xs => xs = [0, 1, 2]) (fun pre => pre <+: [0, 1, 2]) 3 w := fun l J Jx W hW hJ hJx hY hJ0 => by
  have c0 : W.cell? ⟨Bn, 0, none⟩ = some (I d0) := (hW.cell (p := ⟨Bn, 0, none⟩) hlt).trans h0
  have c1 : W.cell? ⟨Bn, 1, none⟩ = some (I d1) := (hW.cell (p := ⟨Bn, 1, none⟩) hlt).trans h1
  have c2 : W.cell? ⟨Bn, 2, none⟩ = some (I d2) := (hW.cell (p := ⟨Bn, 2, none⟩) hlt).trans h2
  refine callsIn_of_wp Try.func89 rfl hF ?_ hro
  simp only [Try.ntmps89, List.size_toArray, List.length_cons, List.length_nil, Nat.reduceAdd, Nat.reduceSub, Array.replicate_succ, Array.replicate_zero, List.push_toArray, List.append_toArray, List.nil_append, List.cons_append]
  have i0 : ∀ w, (Instr.index 26 (A3 d0 d1 d2) (.int .i64 0)).run Try.prog w = .ok (I d0) w := fun _ => by kernel_rfl
  have i1 : ∀ w, (Instr.index 26 (A3 d0 d1 d2) (.int .i64 1)).run Try.prog w = .ok (I d1) w := fun _ => by kernel_rfl
  have i2 : ∀ w, (Instr.index 26 (A3 d0 d1 d2) (.int .i64 2)).run Try.prog w = .ok (I d2) w := fun _ => by kernel_rfl
  gi_wp2
  gi_loopw [3, 7] (fun s i wr => (i = .int .i64 0 ∧ s = .int .i64 1 ∧ J [] wr) ∨ (i = .int .i64 1 ∧ s = .int .i64 (wrap64 d0) ∧ J [0] wr) ∨ (i = .int .i64 2 ∧ s = .int .i64 (wrap64 (wrap64 d0 * d1)) ∧ J [0, 1] wr) ∨ (i = .int .i64 3 ∧ J [0, 1, 2] wr)) (fun _ i _ => 3 - (RowKit.intOf i).toNat)
  case atStart => exact .inl ⟨rfl, rfl, hJ0⟩
  case round =>
    rcases hrel with ⟨rfl, rfl, hj⟩ | ⟨rfl, rfl, hj⟩ | ⟨rfl, rfl, hj⟩ | ⟨rfl, hj⟩
    · obtain ⟨f1, t1, a1, b1, hy1, hR1⟩ := hY [] 0 wr hj (by simp)
      simp only [axEnc, axI, strd] at hy1
      gi_wp2
      refine hR1.mono ?_
      rintro e W3 (⟨rfl, hJ3, _⟩ | ⟨rfl, hJx3⟩)
      · gi_wp2
        go_roundw
        case rel => exact .inr (.inl ⟨rfl, by first | rfl | simp, hJ3⟩)
        case measure => simp [RowKit.intOf]
      · gi_wp2
        refine bodyPost_ret (results_none rfl _ _ _) rfl ?_
        exact ⟨⟨_, rfl⟩, .inr ⟨_, by simp, hJx3⟩⟩
    · obtain ⟨f1, t1, a1, b1, hy1, hR1⟩ := hY [0] 1 wr hj (by simp)
      simp only [axEnc, axI, strd] at hy1
      gi_wp2
      refine hR1.mono ?_
      rintro e W3 (⟨rfl, hJ3, _⟩ | ⟨rfl, hJx3⟩)
      · gi_wp2
        go_roundw
        case rel => exact .inr (.inr (.inl ⟨rfl, rfl, hJ3⟩))
        case measure => simp [RowKit.intOf]
      · gi_wp2
        refine bodyPost_ret (results_none rfl _ _ _) rfl ?_
        exact ⟨⟨_, rfl⟩, .inr ⟨_, by simp, hJx3⟩⟩
    · obtain ⟨f1, t1, a1, b1, hy1, hR1⟩ := hY [0, 1] 2 wr hj (by simp)
      simp only [axEnc, axI, strd] at hy1
      gi_wp2
      refine hR1.mono ?_
      rintro e W3 (⟨rfl, hJ3, _⟩ | ⟨rfl, hJx3⟩)
      · gi_wp2
        go_roundw
        case rel => exact .inr (.inr (.inr ⟨rfl, hJ3⟩))
        case measure => simp [RowKit.intOf]
      · gi_wp2
        refine bodyPost_ret (results_none rfl _ _ _) rfl ?_
        exact ⟨⟨_, rfl⟩, .inr ⟨_, by simp, hJx3⟩⟩
    · gi_wp2
      go_end0
      exact ⟨⟨_, rfl⟩, .inl ⟨_, rfl, hj⟩⟩


/-- A loop over the axes, at the wide fence: what the loop's body keeps, a round at a time. -/
theorem wpIn_axes {g : Operand} {ps : Array Tmp} {assign body : Code} {Q : Exit → Act → World → Prop} {a : Act} {w : World} (Bn : Nat) (d0 d1 d2 : Int)
    (hg : a.eval g = .func (.func 89) #[] #[.pointer (some ⟨Bn, 0, none⟩)]) (hb : Blk w Bn 26 #[I d0, I d1, I d2]) (hps : ps.size = 2)
    (J : List (Fin 3) → World → Prop) (Jx : Code → List (Fin 3) → World → Prop) (hJ : OwnFrom w.heap.size J) (hJx : ∀ c, OwnFrom w.heap.size (Jx c)) (h0 : J [] w) (a₁ : Fin 3 → Act)
    (hassign : ∀ (l : Nat) (x : Fin 3) (W : World) (K : Act → World → Prop), K (a₁ x) W →
      assign.wpIn (Fence.wide.inRound l) 1 Try.prog (Exit.then K (fun _ _ _ => False)) { tmps := (ps.zip (axEnc d0 d1 x)).foldl (fun t (p, v) => t.setIfInBounds p v) a.tmps, defers := [] } W)
    (hbody : ∀ (l : Nat) (pre : List (Fin 3)) (x : Fin 3) (W : World), J pre W → pre.length < 3 → body.wpIn (Fence.wide.inRound l) 1 Try.prog (ownPostK (fun _ _ => True) J Jx (pre ++ [x]) W) (a₁ x) W)
    (hdone : ∀ (D : Nat) (W : World), w.heap.size ≤ D → J [0, 1, 2] W → W.heap[D]? = some (.deferred (some [])) → Q .normal { a with defers := { target := .collected D, args := #[] } :: a.defers } W)
    (hstop : ∀ (D : Nat) (c : Code) (pre : List (Fin 3)) (W : World), w.heap.size ≤ D → pre <+: [0, 1, 2] → Jx c pre W → W.heap[D]? = some (.deferred (some [])) → c.wpIn Fence.wide 3 Try.prog Q { a with defers := { target := .collected D, args := #[] } :: a.defers } W) :
    (Code.rangeFunc g ps assign body).wpIn Fence.wide 3 Try.prog Q a w :=
  wpIn_rangeFunc_ownF rfl (by omega) (gf := 89) (lb := #[.pointer (some ⟨Bn, 0, none⟩)]) hg trivial (enters_of Try.func89 (by kernel_rfl) rfl)
    (axes_stops Fence.wide 2 trivial rfl (by omega) Bn d0 d1 d2 w hb.lt (hb.cell 0) (hb.cell 1) (hb.cell 2)) (fun _ _ => trivial) (fun _ _ _ _ _ _ _ _ => trivial) (Below.refl _ _) (fun _ => hps.symm)
    J Jx hJ hJx h0 a₁ hassign hbody (fun D xs W hD hxs hj => by subst hxs; exact hdone D W hD hj) hstop

end Go.Proofs.Ytjmfdpilmljppaa

/-
  A statement whose order the language leaves open: where all but its last operations only look, and its callees leave what lay before as it lay, one walk in the order of the text serves every order; in a function's own frame and in a round of a range over a function.
-/
namespace Go.Proofs.Ytjmfdpilmljppaa
open Go Go.RowKit Go.Shelf

/-- The worlds that leave all that lay in w as it lay. -/
structure Ext (w : World) : Type where
  wd : World
  le : Below w.heap.size w wd
theorem ext_const (w : World) (p : Prop) : (∀ _ : Ext w, p) ↔ p := ⟨fun h => h ⟨w, Below.refl _ _⟩, fun h _ => h⟩
theorem Ext.cell {w : World} {B : Nat} {t : TypeId} {vs : Array Value} (h : Blk w B t vs) (i : Nat) (x : Ext w) : x.wd.cell? ⟨B, i, none⟩ = vs[i]? := (h.later x.le).cell i
theorem Ext.frozen {w : World} {B : Nat} {t : TypeId} {vs : Array Value} (h : Blk w B t vs) (i : Nat) (x : Ext w) : x.wd.frozen? ⟨B, i, none⟩ = false := (h.later x.le).frozen i

theorem keeps_below {W W' : World} (h : Below W.heap.size W W') : KeepsOthers W W' :=
  ⟨h.size, fun k _ hk _ => (h.block k (Array.getElem?_eq_some_iff.1 hk).1).trans hk⟩
theorem below_ext {w W : World} (hB : Below w.heap.size w W) (x : Ext W) : Below w.heap.size w x.wd := hB.trans (x.le.mono hB.size)

theorem calls_ext {P : Program} {f : FuncId} {args : Array Value} {w : World} {x : Ext w} {v : Value}
    (h : Calls P f args x.wd fun e w' => e = .returned v ∧ Below x.wd.heap.size x.wd w') : Calls P f args x.wd fun e w'' => e = .returned v ∧ ∃ y : Ext w, w'' = y.wd :=
  h.mono fun _ w' ⟨he, hb⟩ => ⟨he, ⟨⟨w', x.le.trans (hb.mono x.le.size)⟩, rfl⟩⟩
theorem calls_ext_same {P : Program} {f : FuncId} {args : Array Value} {w : World} {x : Ext w} {v : Value}
    (h : Calls P f args x.wd fun e w' => e = .returned v ∧ w' = x.wd) : Calls P f args x.wd fun e w'' => e = .returned v ∧ ∃ y : Ext w, w'' = y.wd :=
  h.mono fun _ _ ⟨he, hb⟩ => ⟨he, x, hb⟩

section
variable {F : Fence} {n : Nat} {P : Program} {ops : Array Oper} {md : Region.Mode} {C : World → Prop}

/-- A fence that asks nothing. -/
structure Loose (F : Fence) (P : Program) : Prop where
  fn : ∀ f, F.fn f
  depth : F.depth.isSome = true → False
  calls : ∀ (m : Nat) (f : FuncId) (args : Array Value) (w : World) (R : Ending → World → Prop), Calls P f args w R → CallsIn F m P f args w R

theorem loose_wide (P : Program) : Loose Fence.wide P := ⟨fun _ => trivial, fun h => (by cases h), fun _ _ _ _ _ h => callsIn_wide.2 h⟩
theorem loose_round (P : Program) (l : Nat) : Loose (Fence.wide.inRound l) P := ⟨fun _ => trivial, fun h => (by cases h), fun _ _ _ _ _ h => CallsIn.inRound l (callsIn_wide.2 h)⟩

def noDefer (ops : Array Oper) : Bool := ops.toList.all fun o => match o.op with | .defer _ => false | _ => true
theorem noDefer_spec {ops : Array Oper} (h : noDefer ops = true) {i : Nat} {o : Oper} (hi : ops[i]? = some o) : ∀ c, o.op ≠ .defer c := by
  intro c hc
  have h1 := List.all_eq_true.1 h o (by
    obtain ⟨hlt, he⟩ := Array.getElem?_eq_some_iff.1 hi
    rw [← he]; exact Array.getElem_mem_toList hlt)
  rw [hc] at h1
  cases h1

/-- What an operation that only looks can have come to. -/
theorem quiet_came {o : Oper} {a : Act} {w : World} {v : Value} (h : o.quietAt P a C w v) :
    (execOp a.eval o).run P w = .ok (.value v) w ∨ ((execOp a.eval o).run P w = .ok .skip w ∧ v = undef) ∨
    ∃ f args, (execOp a.eval o).run P w = .ok (.enter f args) w ∧ Calls P f args w (fun e w'' => e = .returned v ∧ C w'') := by
  unfold Oper.quietAt at h
  generalize (execOp a.eval o).run P w = r at h ⊢
  match r, h with
  | .ok (.value _) _, h => exact .inl (by rw [h.1, h.2])
  | .ok .skip _, h => exact .inr (.inl ⟨by rw [h.1], h.2⟩)
  | .ok (.enter f args) _, h => exact .inr (.inr ⟨f, args, by rw [h.1], h.2⟩)

/-- An operation of a greater region, walked as one of its beginning. -/
theorem look_in {opsH : Array Oper} (hF : Loose F P) (hd : noDefer ops = true) {i : Nat} {o : Oper} (ho : ops[i]? = some o) (hoH : opsH[i]? = some o) {a : Act}
    (hw : Region.wanted o (yielded ops a.tmps) = Region.wanted o (yielded opsH a.tmps)) {K : Act → Prop} {K' : Act → World → Prop} {Q : Exit → Act → World → Prop} {w : World} (hC : C w)
    (hK : ∀ a w', C w' → K a → K' a w') (h : qOp P opsH C i K a) : wpOpIn F n P ops Q i K' a w := by
  have hfn : ∀ f, o.about P w a.eval = some f → F.fn f := fun f _ => hF.fn f
  simp only [qOp, hoH] at h
  simp only [wpOpIn, ho, hw]
  by_cases hy : Region.wanted o (yielded opsH a.tmps) = true
  · rw [if_pos hy] at h ⊢
    obtain ⟨v, hv, hk⟩ := h
    refine ⟨hfn, ?_⟩
    rw [Oper.semAt_eq _ _ _ (noDefer_spec hd ho)]
    rcases quiet_came (hv w hC) with e | ⟨e, rfl⟩ | ⟨f, args, e, hc⟩
    · rw [e]; exact hK _ _ hC hk
    · rw [e]; exact hK _ _ hC hk
    · rw [e]
      refine ⟨fun hx => (hF.depth hx).elim, hF.calls _ _ _ _ _ (hc.mono ?_)⟩
      rintro x w' ⟨rfl, hC'⟩
      exact hK _ _ hC' hk
  · rw [if_neg hy] at h ⊢
    exact ⟨hfn, hK _ _ hC h⟩

/-- The beginning of a region, of m operations: each waits for such as stand ahead of it alone, and all the others wait for each of it. -/
def waits (o : Oper) (i : Nat) : Bool := o.after.any fun e => Region.binds .any e && e.on == i
def backOnly (o : Oper) (i : Nat) : Bool := (o.after.all fun e => !Region.binds .any e || decide (e.on < i)) && (match o.guard with | some (j, _) => decide (j < i) | none => true)
def beginB (l : List Oper) (m : Nat) : Bool :=
  decide (m ≤ l.length) && ((List.range l.length).all fun t => match l[t]? with
    | some o => if t < m then backOnly o t else (List.range m).all fun i => waits o i
    | none => true)

theorem begin_head {l : List Oper} {m i : Nat} {o : Oper} (h : beginB l m = true) (hi : i < m) (ho : l[i]? = some o) :
    (∀ e ∈ o.after, Region.binds .any e = true → e.on < i) ∧ ∀ j b, o.guard = some (j, b) → j < i := by
  have hlt : i < l.length := (List.getElem?_eq_some_iff.1 ho).1
  have h1 := List.all_eq_true.1 (Bool.and_eq_true_iff.1 h).2 i (List.mem_range.2 hlt)
  rw [ho] at h1
  simp only [hi, if_true, backOnly, Bool.and_eq_true] at h1
  constructor
  · intro e he hb
    have := Array.all_eq_true'.1 h1.1 e he
    simpa [hb] using this
  · intro j b hg
    have := h1.2
    rw [hg] at this
    simpa using this
theorem begin_tail {l : List Oper} {m t i : Nat} {o : Oper} (h : beginB l m = true) (ht : m ≤ t) (ho : l[t]? = some o) (hi : i < m) : ∃ e ∈ o.after, Region.binds .any e = true ∧ e.on = i := by
  have hlt : t < l.length := (List.getElem?_eq_some_iff.1 ho).1
  have h1 := List.all_eq_true.1 (Bool.and_eq_true_iff.1 h).2 t (List.mem_range.2 hlt)
  rw [ho] at h1
  simp only [if_neg (Nat.not_lt.2 ht)] at h1
  have h2 := List.all_eq_true.1 h1 i (List.mem_range.2 hi)
  obtain ⟨e, he, hb⟩ := Array.any_eq_true'.1 h2
  simp only [Bool.and_eq_true, beq_iff_eq] at hb
  exact ⟨e, he, hb.1, hb.2⟩

/-- What is listed: of the beginning as LH says, of the rest nothing. -/
def both (LH : Array Bool) (g : Nat) : Array Bool := LH ++ Array.replicate g false
theorem both_lt {LH : Array Bool} {g i : Nat} (h : i < LH.size) (b : Bool) : (both LH g).getD i b = LH.getD i b := by
  simp [both, Array.getD, h, Array.getElem_append_left h, show i < LH.size + g by omega]
theorem both_set {LH : Array Bool} {g i : Nat} (h : i < LH.size) : (both LH g).setIfInBounds i true = both (LH.setIfInBounds i true) g := by
  simp [both, Array.setIfInBounds_append_left h]

variable {l : List Oper} {m : Nat}

theorem ready_head (hB : beginB l m = true) {LH : Array Bool} (hs : LH.size = m) (g i : Nat) (hi : i < m) : i ∈ Region.ready .any l.toArray (both LH g) ↔ i ∈ Region.ready .any (l.take m).toArray LH := by
  have hsame : (l.take m).toArray[i]? = l.toArray[i]? := by simp [hi]
  rw [mem_ready, mem_ready, both_lt (by omega), hsame]
  refine and_congr_right fun _ => exists_congr fun o => and_congr_right fun ho => ?_
  have hback := (begin_head hB hi (by simpa using ho)).1
  exact forall_congr' fun e => forall_congr' fun he => forall_congr' fun hb => by rw [both_lt (by have := hback e he hb; omega)]

/-- If nothing of the beginning may come up, all of it has. -/
theorem full_of_none (hB : beginB l m = true) {LH : Array Bool} (hs : LH.size = m) (h : Region.ready .any (l.take m).toArray LH = []) : LH = Array.replicate m true := by
  have hml : m ≤ l.length := by simpa using (Bool.and_eq_true_iff.1 hB).1
  have key : ∀ i, i < m → LH.getD i false = true := by
    intro i
    induction i using Nat.strongRecOn with
    | _ i ih =>
      intro hi
      cases hv : LH.getD i false with
      | true => rfl
      | false =>
        have hil : i < l.length := by omega
        have hmem : i ∈ Region.ready .any (l.take m).toArray LH := by
          rw [mem_ready]
          refine ⟨getD_in (by omega) hv, l[i], by simp [hi, hil], fun e he hb => ?_⟩
          have hlt := (begin_head hB hi (List.getElem?_eq_getElem hil)).1 e he hb
          exact ih e.on hlt (by omega)
        rw [h] at hmem
        cases hmem
  refine Array.ext (by simpa using hs) fun i h1 h2 => ?_
  have := key i (by omega)
  simpa [Array.getD, h1] using this

/-- Whatever order the beginning takes, the rest stands as behind the order of the text. -/
theorem any_begun (hF : Loose F P) (hd : noDefer l.toArray = true) (hB : beginB l m = true) {Q : Exit → Act → World → Prop} {L : Act → Prop} (g : Nat)
    (hrest : ∀ (k : Nat) (a : Act) (w : World), C w → L a → g ≤ k → wpAnyIn F n P .any l.toArray Q k (both (Array.replicate m true) g) a w) :
    ∀ (f : Nat) (LH : Array Bool) (a : Act) (w : World), LH.size = m → C w → wpAnyQ P .any (l.take m).toArray C L f LH a → wpAnyIn F n P .any l.toArray Q (f + g) (both LH g) a w := by
  have hml : m ≤ l.length := by simpa using (Bool.and_eq_true_iff.1 hB).1
  intro f
  induction f with
  | zero =>
    intro LH a w hs hC h
    rw [full_of_none hB hs h.1]
    exact hrest _ a w hC h.2 (by omega)
  | succ f ih =>
    intro LH a w hs hC h
    by_cases hnone : Region.ready .any (l.take m).toArray LH = []
    · rw [full_of_none hB hs hnone]
      exact hrest _ a w hC (h.1 hnone) (by omega)
    · obtain ⟨i0, hi0⟩ := List.exists_mem_of_ne_nil _ hnone
      obtain ⟨hun, o0, ho0, _⟩ := mem_ready.1 hi0
      have hlt0 : i0 < m := by
        have := (Array.getElem?_eq_some_iff.1 ho0).1
        simp at this; omega
      rw [show f + 1 + g = (f + g) + 1 by omega]
      refine ⟨fun hx => ?_, fun i hi => ?_⟩
      · have := (ready_head hB hs g i0 hlt0).2 hi0
        rw [hx] at this; cases this
      · obtain ⟨_, o, ho, hall⟩ := mem_ready.1 hi
        have hol : l[i]? = some o := by simpa using ho
        have him : i < m := by
          rcases Nat.lt_or_ge i m with hx | hx
          · exact hx
          · obtain ⟨e, he, hb, hon⟩ := begin_tail hB hx hol hlt0
            have h1 := hall e he hb
            rw [hon, both_lt (by omega), getD_both hun] at h1
            cases h1
        have hiH := (ready_head hB hs g i him).1 hi
        have hoH : (l.take m).toArray[i]? = some o := by simpa [him] using hol
        refine look_in hF hd ho hoH ?_ hC (fun a' w' hC' h' => ?_) (h.2 i hiH)
        · unfold Region.wanted
          cases hgd : o.guard with
          | none => rfl
          | some jb =>
            have hj := (begin_head hB him hol).2 jb.1 jb.2 hgd
            have : yielded l.toArray a.tmps jb.1 = yielded (l.take m).toArray a.tmps jb.1 := by
              unfold yielded
              rw [show (l.take m).toArray[jb.1]? = l.toArray[jb.1]? by simp [show jb.1 < m by omega]]
            simp only [this]
        · rw [both_set (by omega)]
          exact ih _ a' w' (by simpa using hs) hC' h'

/-- Operations of which each is the only one that may come up. -/
theorem any_forced {Q : Exit → Act → World → Prop} : ∀ (r : List Oper) (k : Nat) (listed : Array Bool) (fuel : Nat) (a : Act) (w : World), (∀ j, r[j]? = l.toArray[k + j]?) →
    Region.seqB .any l.toArray r.length k listed = true → r.length ≤ fuel → wpListIn F n P l.toArray Q r a w → wpAnyIn F n P .any l.toArray Q fuel listed a w
  | [], k, listed, fuel, a, w, _, hq, _, h => by
    have he : Region.ready .any l.toArray listed = [] := by simpa [Region.seqB] using hq
    cases fuel with
    | zero => exact ⟨he, h⟩
    | succ f => exact ⟨fun _ => h, fun i hi => by rw [he] at hi; cases hi⟩
  | o :: r, k, listed, 0, a, w, _, _, hf, _ => by simp at hf
  | o :: r, k, listed, fuel + 1, a, w, hr, hq, hf, h => by
    have hk : l.toArray[k]? = some o := by rw [← Nat.add_zero k, ← hr 0]; rfl
    obtain ⟨hone, hq'⟩ := Bool.and_eq_true_iff.1 hq
    have hone : Region.ready .any l.toArray listed = [k] := of_decide_eq_true hone
    refine ⟨fun hx => (by rw [hone] at hx; cases hx), fun i hi => ?_⟩
    rw [hone, List.mem_singleton] at hi
    subst hi
    have hop : wpOpIn F n P l.toArray Q i (wpListIn F n P l.toArray Q r) a w := by simp only [wpOpIn, hk]; exact h
    refine wpOpIn_mono (fun a' w' h' => any_forced r (i + 1) _ fuel a' w' (fun j => ?_) hq' (by simpa using hf) h') hop
    have := hr (j + 1)
    rw [show i + 1 + j = i + (j + 1) by omega]
    simpa using this

def tailB (l : List Oper) (m : Nat) : Bool := noDefer l.toArray && beginB l m && Region.lexB .any (l.take m).toArray && Region.seqB .any l.toArray (l.length - m) m (both (Array.replicate m true) (l.length - m))

/-- All but the operations from number m on only look; those come last, in the order of the text. -/
theorem wpIn_region_tail {id : Nat} {Q : Exit → Act → World → Prop} {a : Act} {w : World} {l : List Oper} (m : Nat) (hF : Loose F P) (hm : P.follows .mixedOrders = true) (hB : tailB l m = true)
    (h : wpQuiet P (l.take m).toArray (fun w' => ∃ x : Ext w, w' = x.wd) (fun a' => ∀ x : Ext w, wpListIn F n P l.toArray Q (l.drop m) a' x.wd) (l.take m) a) : (Code.region id l.toArray true).wpIn F n P Q a w := by
  obtain ⟨h123, hseq⟩ := Bool.and_eq_true_iff.1 hB
  obtain ⟨h12, hlex⟩ := Bool.and_eq_true_iff.1 h123
  obtain ⟨hd, hbeg⟩ := Bool.and_eq_true_iff.1 h12
  obtain ⟨hsel, hlf⟩ := Bool.and_eq_true_iff.1 hlex
  have hml : m ≤ l.length := by simpa using (Bool.and_eq_true_iff.1 hbeg).1
  have hlen : (l.take m).length = m := by simp [hml]
  have hq := wpAnyQ_lex (C := fun w' => ∃ x : Ext w, w' = x.wd) (md := .any) hsel (l.take m) 0 (Array.replicate (l.take m).toArray.size false) a (by simp) (by simpa using hlf) h
  rw [hlen] at hq
  refine wpIn_region_any hm ?_
  have hsz : (Array.replicate l.toArray.size false : Array Bool) = both (Array.replicate m false) (l.length - m) := by
    refine Array.ext (by simp [both]; omega) fun i h1 h2 => ?_
    simp [both]
  rw [hsz, show l.toArray.size = m + (l.length - m) by simp; omega]
  refine any_begun (C := fun w' => ∃ x : Ext w, w' = x.wd) hF hd hbeg (l.length - m) ?_ m _ a _ (by simp) ⟨⟨_, (Below.refl w.heap.size w).drew⟩, rfl⟩ (by simpa [hlen] using hq)
  rintro k a' w' ⟨x, rfl⟩ hL hk
  exact any_forced (l.drop m) m _ k a' x.wd (fun j => by simp) (by simpa using hseq) (by simpa using hk) (hL x)

def lookB (l : List Oper) : Bool := tailB l l.length

/-- All operations only look. -/
theorem wpIn_region_look {id : Nat} {Q : Exit → Act → World → Prop} {a : Act} {w : World} {l : List Oper} (hF : Loose F P) (hm : P.follows .mixedOrders = true) (hB : lookB l = true)
    (h : wpQuiet P l.toArray (fun w' => ∃ x : Ext w, w' = x.wd) (fun a' => ∀ x : Ext w, Q .normal a' x.wd) l a) : (Code.region id l.toArray true).wpIn F n P Q a w := by
  refine wpIn_region_tail l.length hF hm hB ?_
  rw [List.take_length, List.drop_length]
  exact h

/-- In a function's own frame, without a fence. -/
theorem wp_region_tail {id : Nat} {Q : Exit → Act → World → Prop} {a : Act} {w : World} {l : List Oper} (m : Nat) (hm : P.follows .mixedOrders = true) (hB : tailB l m = true)
    (h : wpQuiet P (l.take m).toArray (fun w' => ∃ x : Ext w, w' = x.wd) (fun a' => ∀ x : Ext w, wpListIn Fence.wide 0 P l.toArray Q (l.drop m) a' x.wd) (l.take m) a) : (Code.region id l.toArray true).wp P Q a w :=
  wpIn_wide.1 (wpIn_region_tail m (loose_wide P) hm hB h)
theorem wp_region_look {id : Nat} {Q : Exit → Act → World → Prop} {a : Act} {w : World} {l : List Oper} (hm : P.follows .mixedOrders = true) (hB : lookB l = true)
    (h : wpQuiet P l.toArray (fun w' => ∃ x : Ext w, w' = x.wd) (fun a' => ∀ x : Ext w, Q .normal a' x.wd) l a) : (Code.region id l.toArray true).wp P Q a w :=
  wpIn_wide.1 (wpIn_region_look (n := 0) (loose_wide P) hm hB h)

end
end Go.Proofs.Ytjmfdpilmljppaa

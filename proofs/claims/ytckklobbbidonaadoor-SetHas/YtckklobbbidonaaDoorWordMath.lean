/-
  Words as plain arithmetic: how many bits are on (the sums by halves that math/bits makes), and the least bit that is on.
-/
import Derived.Test.YtckklobbbidonaaDoorWords
import Derived.Lib.TrailingZeros
namespace Go.Proofs.YtckklobbbidonaaDoor
open Go

/-- How many of the lowest n bits of x are on. -/
def popTo : Nat → Nat → Nat
  | 0, _ => 0
  | n + 1, x => x % 2 + popTo n (x / 2)

theorem popTo_add (m : Nat) : ∀ (n x : Nat), popTo (n + m) x = popTo n x + popTo m (x / 2 ^ n)
  | 0, x => by simp [popTo]
  | n + 1, x => by
    rw [show n + 1 + m = (n + m) + 1 by omega, popTo, popTo, popTo_add m n (x / 2), Nat.div_div_eq_div_mul, Nat.pow_succ, Nat.mul_comm 2, Nat.add_assoc]
theorem popTo_low : ∀ (n x y : Nat), popTo n (2 ^ n * y + x) = popTo n x
  | 0, x, y => rfl
  | n + 1, x, y => by
    rw [popTo, popTo, ← popTo_low n (x / 2) y]
    rw [show 2 ^ (n + 1) * y + x = 2 * (2 ^ n * y) + x by rw [Nat.pow_succ]; ac_rfl]
    rw [show (2 * (2 ^ n * y) + x) % 2 = x % 2 by omega, show (2 * (2 ^ n * y) + x) / 2 = 2 ^ n * y + x / 2 by omega]
theorem popTo_byte (n y b : Nat) (hb : b < 256) : popTo (n + 8) (256 * y + b) = popTo 8 b + popTo n y := by
  rw [Nat.add_comm n 8, popTo_add, show (256 : Nat) = 2 ^ 8 from rfl, popTo_low, show (2 ^ 8 * y + b) / 2 ^ 8 = y by omega]

theorem and_byte (a b c d : Nat) (hb : b < 256) (hd : d < 256) : (256 * a + b) &&& (256 * c + d) = 256 * (a &&& c) + (b &&& d) := by
  have hbd : b &&& d < 2 ^ 8 := Nat.and_lt_two_pow _ hd
  apply Nat.eq_of_testBit_eq
  intro i
  rw [Nat.testBit_and, show (256 : Nat) = 2 ^ 8 from rfl, Nat.testBit_two_pow_mul_add _ hb, Nat.testBit_two_pow_mul_add _ hd, Nat.testBit_two_pow_mul_add _ hbd]
  split <;> simp

/-- The masks of n bytes. -/
def rep (d : Nat) : Nat → Nat
  | 0 => 0
  | n + 1 => 256 * rep d n + d

def st1 (n x : Nat) : Nat := (x / 2 &&& rep 85 n) + (x &&& rep 85 n)
def st2 (n x : Nat) : Nat := (x / 4 &&& rep 51 n) + (x &&& rep 51 n)
def st3 (n x : Nat) : Nat := (x / 16 + x) &&& rep 15 n

theorem byte1 : ∀ b, b < 256 → ∀ t, t < 2 → (128 * t + b / 2 &&& 85) + (b &&& 85) = (b / 2 &&& 85) + (b &&& 85) ∧ (b / 2 &&& 85) + (b &&& 85) < 256 := by decide +kernel
theorem byte2 : ∀ b, b < 256 → ∀ t, t < 4 → (64 * t + b / 4 &&& 51) + (b &&& 51) = (b / 4 &&& 51) + (b &&& 51) ∧ (b / 4 &&& 51) + (b &&& 51) < 256 := by decide +kernel
/-- A byte's bits, summed by halves. -/
def b1 (b : Nat) : Nat := (b / 2 &&& 85) + (b &&& 85)
def b2 (b : Nat) : Nat := (b1 b / 4 &&& 51) + (b1 b &&& 51)
theorem byte3 : ∀ b, b < 256 → ∀ t, t < 5 → 16 * t + b2 b / 16 + b2 b < 256 ∧ (16 * t + b2 b / 16 + b2 b &&& 15) = popTo 8 b ∧ b2 b % 16 < 5 ∧ b1 b < 256 ∧ b2 b < 256 ∧ popTo 8 b ≤ 8 := by decide +kernel

theorem st1_step (n y b : Nat) (hb : b < 256) : st1 (n + 1) (256 * y + b) = 256 * st1 n y + b1 b := by
  unfold st1
  have h := byte1 b hb (y % 2) (by omega)
  rw [show (256 * y + b) / 2 = 256 * (y / 2) + (128 * (y % 2) + b / 2) by omega, rep, and_byte _ _ _ _ (by omega) (by omega), and_byte _ _ _ _ hb (by omega)]
  unfold b1
  omega
theorem st2_step (n y b : Nat) (hb : b < 256) : st2 (n + 1) (256 * y + b1 b) = 256 * st2 n y + b2 b := by
  have hb1 : b1 b < 256 := (byte3 b hb 0 (by omega)).2.2.2.1
  unfold st2
  have h := byte2 (b1 b) hb1 (y % 4) (by omega)
  rw [show (256 * y + b1 b) / 4 = 256 * (y / 4) + (64 * (y % 4) + b1 b / 4) by omega, rep, and_byte _ _ _ _ (by omega) (by omega), and_byte _ _ _ _ hb1 (by omega)]
  unfold b2
  omega
theorem st3_step (n y b : Nat) (hb : b < 256) (hy : y % 16 < 5) : st3 (n + 1) (256 * y + b2 b) = 256 * st3 n y + popTo 8 b := by
  have h := byte3 b hb (y % 16) hy
  unfold st3
  rw [show (256 * y + b2 b) / 16 + (256 * y + b2 b) = 256 * (y / 16 + y) + (16 * (y % 16) + b2 b / 16 + b2 b) by omega, rep, and_byte _ _ _ _ h.1 (by omega), h.2.1]

theorem st12 : ∀ (n x : Nat), x < 256 ^ n → st2 n (st1 n x) % 16 < 5
  | 0, x, h => by simp [st1, st2, rep]
  | n + 1, x, h => by
    have e : x = 256 * (x / 256) + x % 256 := by omega
    have hb : x % 256 < 256 := by omega
    rw [e, st1_step _ _ _ hb, st2_step _ _ _ hb]
    have := (byte3 _ hb 0 (by omega)).2.2.1
    omega
/-- The bytes' sums. -/
theorem st_bytes (n x : Nat) (h : x < 256 ^ (n + 1)) : st3 (n + 1) (st2 (n + 1) (st1 (n + 1) x)) = 256 * st3 n (st2 n (st1 n (x / 256))) + popTo 8 (x % 256) := by
  have e : x = 256 * (x / 256) + x % 256 := by omega
  have hb : x % 256 < 256 := by omega
  have h' : x / 256 < 256 ^ n := by rw [Nat.pow_succ] at h; omega
  conv => lhs; rw [e]
  rw [st1_step _ _ _ hb, st2_step _ _ _ hb, st3_step _ _ _ hb (st12 n _ h')]
theorem pop8 (b : Nat) (h : b < 256) : popTo 8 b ≤ 8 := (byte3 b h 0 (by omega)).2.2.2.2.2
theorem pop_byte (n x : Nat) : popTo (n + 8) x = popTo 8 (x % 256) + popTo n (x / 256) := by
  conv => lhs; rw [show x = 256 * (x / 256) + x % 256 by omega]
  exact popTo_byte _ _ _ (by omega)

theorem fold8 (a0 a1 a2 a3 a4 a5 a6 a7 : Nat) (h0 : a0 ≤ 8) (h1 : a1 ≤ 8) (h2 : a2 ≤ 8) (h3 : a3 ≤ 8) (h4 : a4 ≤ 8) (h5 : a5 ≤ 8) (h6 : a6 ≤ 8) (h7 : a7 ≤ 8) (z y x : Nat)
    (hz : z = a0 + 256 * a1 + 65536 * a2 + 16777216 * a3 + 4294967296 * a4 + 1099511627776 * a5 + 281474976710656 * a6 + 72057594037927936 * a7) (hy : y = z + z / 256) (hx : x = y + y / 65536) :
    (x + x / 4294967296) % 128 = a0 + a1 + a2 + a3 + a4 + a5 + a6 + a7 := by
  have z1 : z / 256 = a1 + 256 * a2 + 65536 * a3 + 16777216 * a4 + 4294967296 * a5 + 1099511627776 * a6 + 281474976710656 * a7 := by omega
  have y0 : y = (a0 + a1) + 256 * (a1 + a2) + 65536 * (a2 + a3) + 16777216 * (a3 + a4) + 4294967296 * (a4 + a5) + 1099511627776 * (a5 + a6) + 281474976710656 * (a6 + a7) + 72057594037927936 * a7 := by omega
  clear hz hy z1
  have y1 : y / 65536 = (a2 + a3) + 256 * (a3 + a4) + 65536 * (a4 + a5) + 16777216 * (a5 + a6) + 4294967296 * (a6 + a7) + 1099511627776 * a7 := by omega
  have x0 : x = (a0 + a1 + a2 + a3) + 256 * (a1 + a2 + a3 + a4) + 65536 * (a2 + a3 + a4 + a5) + 16777216 * (a3 + a4 + a5 + a6) + 4294967296 * (a4 + a5 + a6 + a7) + 1099511627776 * (a5 + a6 + a7) + 281474976710656 * (a6 + a7) + 72057594037927936 * a7 := by omega
  clear hx y0 y1
  have x1 : x / 4294967296 = (a4 + a5 + a6 + a7) + 256 * (a5 + a6 + a7) + 65536 * (a6 + a7) + 16777216 * a7 := by omega
  omega

/-- What math/bits reckons. -/
theorem ones_eq (x : Nat) (h : x < 18446744073709551616) : ∃ z, st3 8 (st2 8 (st1 8 x)) = z ∧ z < 578721382704613385 ∧ st1 8 x < 18446744073709551616 ∧ st2 8 (st1 8 x) / 16 + st2 8 (st1 8 x) < 18446744073709551616 ∧
    ((z + z / 256) + (z + z / 256) / 65536 + ((z + z / 256) + (z + z / 256) / 65536) / 4294967296) % 128 = popTo 64 x ∧ popTo 64 x ≤ 64 := by
  have p0 := pop8 (x % 256) (by omega)
  have p1 := pop8 (x / 256 % 256) (by omega)
  have p2 := pop8 (x / 256 / 256 % 256) (by omega)
  have p3 := pop8 (x / 256 / 256 / 256 % 256) (by omega)
  have p4 := pop8 (x / 256 / 256 / 256 / 256 % 256) (by omega)
  have p5 := pop8 (x / 256 / 256 / 256 / 256 / 256 % 256) (by omega)
  have p6 := pop8 (x / 256 / 256 / 256 / 256 / 256 / 256 % 256) (by omega)
  have p7 := pop8 (x / 256 / 256 / 256 / 256 / 256 / 256 / 256 % 256) (by omega)
  have e0 := st_bytes 7 x (by omega)
  have e1 := st_bytes 6 (x / 256) (by omega)
  have e2 := st_bytes 5 (x / 256 / 256) (by omega)
  have e3 := st_bytes 4 (x / 256 / 256 / 256) (by omega)
  have e4 := st_bytes 3 (x / 256 / 256 / 256 / 256) (by omega)
  have e5 := st_bytes 2 (x / 256 / 256 / 256 / 256 / 256) (by omega)
  have e6 := st_bytes 1 (x / 256 / 256 / 256 / 256 / 256 / 256) (by omega)
  have e7 := st_bytes 0 (x / 256 / 256 / 256 / 256 / 256 / 256 / 256) (by omega)
  have ez : st3 0 (st2 0 (st1 0 (x / 256 / 256 / 256 / 256 / 256 / 256 / 256 / 256))) = 0 := by simp [st1, st2, st3, rep]
  have q0 := pop_byte 56 x
  have q1 := pop_byte 48 (x / 256)
  have q2 := pop_byte 40 (x / 256 / 256)
  have q3 := pop_byte 32 (x / 256 / 256 / 256)
  have q4 := pop_byte 24 (x / 256 / 256 / 256 / 256)
  have q5 := pop_byte 16 (x / 256 / 256 / 256 / 256 / 256)
  have q6 := pop_byte 8 (x / 256 / 256 / 256 / 256 / 256 / 256)
  have q7 := pop_byte 0 (x / 256 / 256 / 256 / 256 / 256 / 256 / 256)
  have qz : popTo 0 (x / 256 / 256 / 256 / 256 / 256 / 256 / 256 / 256) = 0 := rfl
  simp only [Nat.reduceAdd] at e0 e1 e2 e3 e4 e5 e6 e7 q0 q1 q2 q3 q4 q5 q6 q7
  have er : rep 51 8 = 3689348814741910323 := by decide
  have es : rep 85 8 = 6148914691236517205 := by decide
  have hx2 : st2 8 (st1 8 x) ≤ 7378697629483820646 := by
    have r1 : st2 8 (st1 8 x) = (st1 8 x / 4 &&& rep 51 8) + (st1 8 x &&& rep 51 8) := rfl
    have l1 : st1 8 x / 4 &&& rep 51 8 ≤ rep 51 8 := Nat.and_le_right
    have l2 : st1 8 x &&& rep 51 8 ≤ rep 51 8 := Nat.and_le_right
    omega
  have hx1 : st1 8 x ≤ 12297829382473034410 := by
    have r1 : st1 8 x = (x / 2 &&& rep 85 8) + (x &&& rep 85 8) := rfl
    have l1 : x / 2 &&& rep 85 8 ≤ rep 85 8 := Nat.and_le_right
    have l2 : x &&& rep 85 8 ≤ rep 85 8 := Nat.and_le_right
    omega
  have ze : st3 8 (st2 8 (st1 8 x)) = popTo 8 (x % 256) + 256 * popTo 8 (x / 256 % 256) + 65536 * popTo 8 (x / 256 / 256 % 256) + 16777216 * popTo 8 (x / 256 / 256 / 256 % 256) + 4294967296 * popTo 8 (x / 256 / 256 / 256 / 256 % 256) + 1099511627776 * popTo 8 (x / 256 / 256 / 256 / 256 / 256 % 256) + 281474976710656 * popTo 8 (x / 256 / 256 / 256 / 256 / 256 / 256 % 256) + 72057594037927936 * popTo 8 (x / 256 / 256 / 256 / 256 / 256 / 256 / 256 % 256) := by omega
  refine ⟨_, ze, by omega, by omega, by omega, ?_, by omega⟩
  rw [fold8 _ _ _ _ _ _ _ _ p0 p1 p2 p3 p4 p5 p6 p7 _ _ _ rfl rfl rfl]
  omega

end Go.Proofs.YtckklobbbidonaaDoor

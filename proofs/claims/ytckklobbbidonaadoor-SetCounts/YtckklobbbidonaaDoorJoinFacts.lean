/-
  What sets of two come to, as plain arithmetic: whether they may be, what they have, how many numbers.
-/
import Derived.Test.YtckklobbbidonaaDoorSetTwo
import Derived.Test.YtckklobbbidonaaDoorSetCalls
import Derived.Test.YtckklobbbidonaaDoorRefSet
namespace Go.Proofs.YtckklobbbidonaaDoor
open Go Go.RowKit

theorem errAll_both {n : Int} {a b : List Nat} (ha : errAll n [a] = 0) (hb : errAll n [b] = 0) : errAll n [a, b] = 0 := (errAll_second ha).trans hb
theorem errAll_split {n : Int} {a b : List Nat} (h : errAll n [a, b] = 0) : errAll n [a] = 0 ∧ errAll n [b] = 0 := by
  by_cases ha : errAll n [a] = 0
  · exact ⟨ha, (errAll_second ha).symm.trans h⟩
  · exact absurd ((errAll_first ha).symm.trans h) ha
theorem errAll_may {n : Int} {a : List Nat} (h1 : 1 ≤ n) (h2 : n ≤ 12288) (h : mayS n.toNat a = true) : errAll n [a] = 0 := by
  have : okN n = true := by simp [okN]; omega
  simp [errAll, this, h]

/-- A set below n whose numbers are told by those of two that may be. -/
theorem zip_may {n : Int} {a b z : List Nat} {g : Bool → Bool → Bool} (he : errAll n [a, b] = 0) (h0 : g false false = false) (hz : IsSet ((n.toNat + 63) / 64) z (fun j => g (hasW a j) (hasW b j))) : errAll n [z] = 0 := by
  obtain ⟨h1, h2, hma, hmb⟩ := err_two he
  refine errAll_may h1 h2 (mayS_iff.2 ⟨hz.len, fun k hk => ?_⟩)
  rw [hz.has, (mayS_iff.1 hma).2 k hk, (mayS_iff.1 hmb).2 k hk, h0]

/-- The three sets of two that may be. -/
structure Three (n : Int) (a b z1 z2 z3 : List Nat) : Prop where
  i1 : IsSet ((n.toNat + 63) / 64) z1 (fun j => hasW a j && hasW b j)
  i2 : IsSet ((n.toNat + 63) / 64) z2 (fun j => hasW a j || hasW b j)
  i3 : IsSet ((n.toNat + 63) / 64) z3 (fun j => hasW a j && !hasW b j)
  e1 : errAll n [z1] = 0
  e2 : errAll n [z2] = 0
  e3 : errAll n [z3] = 0
theorem three_of {n : Int} {a b : List Nat} (wa : ∀ x ∈ a, x < 18446744073709551616) (wb : ∀ x ∈ b, x < 18446744073709551616) (he : errAll n [a, b] = 0) : Three n a b (joinW andW n a b) (joinW orW n a b) (joinW notW n a b) := by
  obtain ⟨h1, h2, hma, hmb⟩ := err_two he
  have la := (mayS_iff.1 hma).1
  have lb := (mayS_iff.1 hmb).1
  unfold joinW
  simp only [if_pos he]
  have i1 := zip_and la lb wa wb
  have i2 := zip_or la lb wa wb
  have i3 := zip_not la lb wa wb
  exact ⟨i1, i2, i3, zip_may (g := fun x y => x && y) he rfl i1, zip_may (g := fun x y => x || y) he rfl i2, zip_may (g := fun x y => x && !y) he rfl i3⟩

theorem has_set {n : Int} {z : List Nat} {l : Nat} {p : Nat → Bool} (he : errAll n [z] = 0) (hz : IsSet l z p) (k : Int) : hasR n z k = (decide (0 ≤ k) && p k.toNat) := by
  unfold hasR
  rw [decide_eq_true he, Bool.true_and, hz.has]
theorem has_own {n : Int} {z : List Nat} (he : errAll n [z] = 0) (k : Int) : hasR n z k = (decide (0 ≤ k) && hasW z k.toNat) := by
  unfold hasR
  rw [decide_eq_true he, Bool.true_and]
theorem has_in {n : Int} {z : List Nat} {k : Int} (h : hasR n z k = true) : 0 ≤ k ∧ k < n := by
  constructor
  · apply Int.not_lt.1; intro hk; rw [hasR_neg hk] at h; cases h
  · apply Int.not_le.1; intro hk; rw [hasR_far hk] at h; cases h
theorem Three.has {n : Int} {a b z1 z2 z3 : List Nat} (h : Three n a b z1 z2 z3) (he : errAll n [a, b] = 0) (k : Int) :
    hasR n z1 k = (hasR n a k && hasR n b k) ∧ hasR n z2 k = (hasR n a k || hasR n b k) ∧ hasR n z3 k = (hasR n a k && !hasR n b k) := by
  obtain ⟨ha, hb⟩ := errAll_split he
  rw [has_set h.e1 h.i1, has_set h.e2 h.i2, has_set h.e3 h.i3, has_own ha, has_own hb]
  cases decide (0 ≤ k) <;> simp

theorem manyS_to {ws : List Nat} {l : Nat} (h : ws.length = l) : manyS ws = (listTo ws (64 * l)).length := by
  subst h
  exact (list_cnt ws ws.length).symm
theorem manyR_in {n : Int} {ws : List Nat} (h : errAll n [ws] = 0) : manyR n ws = manyS ws := by rw [manyR, if_pos h]
theorem manyS_le (ws : List Nat) : manyS ws ≤ 64 * ws.length := cnt_le ws ws.length

/-- How many there are in both, in either. -/
theorem Three.count {n : Int} {a b z1 z2 z3 : List Nat} (h : Three n a b z1 z2 z3) (he : errAll n [a, b] = 0) : manyS z1 + manyS z2 = manyS a + manyS b := by
  obtain ⟨h1, h2, hma, hmb⟩ := err_two he
  rw [manyS_to h.i1.len, manyS_to h.i2.len, manyS_to (mayS_iff.1 hma).1, manyS_to (mayS_iff.1 hmb).1]
  exact count_both h.i1.has h.i2.has _
theorem Three.whole {n : Int} {a b z1 z2 z3 : List Nat} (h : Three n a b z1 z2 z3) (he : errAll n [a, b] = 0) (wa : ∀ x ∈ a, x < 18446744073709551616) : joinW orW n z3 z1 = a := by
  obtain ⟨h1, h2, hma, hmb⟩ := err_two he
  have e31 := errAll_both h.e3 h.e1
  unfold joinW
  rw [if_pos e31]
  have hz := zip_or h.i3.len h.i1.len h.i3.word h.i1.word
  refine hz.ext ⟨(mayS_iff.1 hma).1, wa, fun k => ?_⟩
  rw [h.i3.has, h.i1.has]
  cases hasW a k <;> cases hasW b k <;> rfl
theorem Three.apart {n : Int} {a b z1 z2 z3 : List Nat} (h : Three n a b z1 z2 z3) : meetB n z3 z1 = false := by
  unfold meetB
  rw [Bool.and_eq_false_iff]
  right
  rw [Bool.eq_false_iff]
  intro hc
  obtain ⟨j, _, hj⟩ := List.any_eq_true.1 hc
  rw [h.i3.has, h.i1.has] at hj
  cases ha : hasW a j <;> cases hb : hasW b j <;> simp [ha, hb] at hj

end Go.Proofs.YtckklobbbidonaaDoor

/-
  Plain arithmetic of moments and spans, ahead of stage 7: sums that stop, what two spans have in common. No program is named here.
-/
import Derived.Test.YtikjgfjahjlbaaaCalMath
namespace Go.Proofs.Ytikjgfjahjlbaaa
open Go.RowKit

/-- A number brought within. -/
def brT (n : Int) : Int := if n < 0 then 0 else if 1099511627776 < n then 1099511627776 else n
theorem brT_bd (n : Int) : 0 ≤ brT n ∧ brT n ≤ 1099511627776 := by unfold brT; split <;> (try split) <;> omega
theorem brT_in {n : Int} (h : 0 ≤ n ∧ n ≤ 1099511627776) : brT n = n := by unfold brT; rw [if_neg (by omega), if_neg (by omega)]
theorem brT_le {m n : Int} (h : m ≤ n) : brT m ≤ brT n := by unfold brT; split <;> split <;> (try split) <;> (try split) <;> omega
def plusT (a b : Int) : Int := brT (brT a + brT b)
theorem plusT_bd (a b : Int) : 0 ≤ plusT a b ∧ plusT a b ≤ 1099511627776 := brT_bd _
theorem plusT_comm (a b : Int) : plusT a b = plusT b a := by unfold plusT; rw [Int.add_comm]
theorem brT_min {n : Int} (h : 0 ≤ n) : brT n = if n ≤ 1099511627776 then n else 1099511627776 := by unfold brT; rw [if_neg (by omega)]; split <;> split <;> omega
theorem plusT_assoc (a b c : Int) : plusT (plusT a b) c = plusT a (plusT b c) := by
  unfold plusT
  have ha := brT_bd a
  have hb := brT_bd b
  have hc := brT_bd c
  rw [brT_in (brT_bd (brT a + brT b)), brT_in (brT_bd (brT b + brT c))]
  generalize brT a = x at *
  generalize brT b = y at *
  generalize brT c = z at *
  rw [brT_min (n := x + y) (by omega), brT_min (n := y + z) (by omega)]
  split <;> split <;> rw [brT_min (by omega), brT_min (by omega)] <;> split <;> split <;> omega
theorem plusT_le {a b c : Int} (h : b ≤ c) : plusT a b ≤ plusT a c := brT_le (by have := brT_le h; omega)
theorem plusT_up (a b : Int) : plusT a 0 ≤ plusT a b := brT_le (by have := brT_bd b; have e : brT 0 = 0 := brT_in (by omega); omega)
theorem plusT_more (a b c : Int) : plusT a b ≤ plusT (plusT a b) c := by
  have h := plusT_bd a b
  have hc := brT_bd c
  generalize plusT a b = n at *
  unfold plusT
  rw [brT_in h]
  have := brT_le (show n ≤ n + brT c by omega)
  rwa [brT_in h] at this

/-- All of one span's moments are the other's. -/
def wiT (f t f' t' : Int) : Bool := inT f' t' f && inT f' t' (t - 1)
theorem wiT_iff {f t f' t' : Int} (h : f < t) : wiT f t f' t' = true ↔ f' ≤ f ∧ t ≤ t' := by
  simp only [wiT, Bool.and_eq_true, inT_iff]
  omega
def maxT (a b : Int) : Int := if a < b then b else a
def minT (a b : Int) : Int := if b < a then b else a
/-- What two spans that meet have in common is a span, which lies in both; and it is the greatest such. -/
theorem bothT_may {f t f' t' : Int} (h : maySp f t) (h' : maySp f' t') (hm : meetsT f t f' t' = true) : maySp (maxT f f') (minT t t') := by
  have := (meetsT_iff h.2.1 h'.2.1).1 hm
  unfold maySp at *
  unfold maxT minT
  split <;> split <;> omega
theorem bothT_in {f t f' t' : Int} (h : maySp f t) (h' : maySp f' t') (hm : meetsT f t f' t' = true) : wiT (maxT f f') (minT t t') f t = true ∧ wiT (maxT f f') (minT t t') f' t' = true := by
  have hb := bothT_may h h' hm
  rw [wiT_iff hb.2.1, wiT_iff hb.2.1]
  unfold maxT minT
  split <;> split <;> omega
theorem bothT_most {f t f' t' g u : Int} (hg : g < u) : wiT g u (maxT f f') (minT t t') = (wiT g u f t && wiT g u f' t') := by
  rw [Bool.eq_iff_iff, Bool.and_eq_true, wiT_iff hg, wiT_iff hg, wiT_iff hg]
  unfold maxT minT
  split <;> split <;> omega
theorem bothT_none {f t f' t' g u : Int} (hg : g < u) (h : maySp f t) (h' : maySp f' t') (hm : meetsT f t f' t' = false) : ¬ (wiT g u f t = true ∧ wiT g u f' t' = true) := by
  have := (meetsT_no h.2.1 h'.2.1).1 hm
  rw [wiT_iff hg, wiT_iff hg]
  omega
theorem bothT_same {f t f' t' : Int} (h : maySp f t) (h' : maySp f' t') : wiT f t f' t' = (meetsT f t f' t' && (decide (maxT f f' = f) && decide (minT t t' = t))) := by
  rw [Bool.eq_iff_iff, Bool.and_eq_true, Bool.and_eq_true, wiT_iff h.2.1, meetsT_iff h.2.1 h'.2.1, decide_eq_true_eq, decide_eq_true_eq]
  unfold maySp at h h'
  unfold maxT minT
  split <;> split <;> omega
theorem bothT_sym (f t f' t' : Int) : maxT f f' = maxT f' f ∧ minT t t' = minT t' t := by
  unfold maxT minT
  constructor <;> split <;> split <;> omega
theorem meetsT_sym (f t f' t' : Int) : meetsT f t f' t' = meetsT f' t' f t := by unfold meetsT; rw [Bool.or_comm]

end Go.Proofs.Ytikjgfjahjlbaaa

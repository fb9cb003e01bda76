/-
  What the calls of cal come to, without a program: what keep keeps, what Concat puts together.
-/
import Derived.Test.YtikjgfjahjlbaaaCalClos
namespace Go.Proofs.Ytikjgfjahjlbaaa
open Go Go.RowKit Go.Shelf

def takeK (ow : Int) (s : Slt) : Option Slt := if (s.2.2 != ow) = true then some s else none
def cutK (ow to : Int) (s : Slt) : Option Slt := if s.1 < endS ow to s.2.1 s.2.2 then some (s.1, endS ow to s.2.1 s.2.2, s.2.2) else none
def putK (x : Int) (s : Slt) : Option Slt := if s.2.1 ≤ x then some s else none
theorem takeK_less (c : List Slt) (ow : Int) : c.filterMap (takeK ow) = lessC c ow := by
  unfold lessC
  rw [← List.filterMap_eq_filter]
  refine fm_congr fun s _ => ?_
  unfold takeK
  simp [Option.guard]
theorem cutK_ended {c : List Slt} (hf : fineC c) (ow to : Int) : c.filterMap (cutK ow to) = endedC c ow to := by
  refine fm_congr fun s hs => ?_
  obtain ⟨f, t, o⟩ := s
  have := hf _ hs
  simp only at this
  unfold cutK cutS endS
  simp only
  by_cases ho : o = ow
  · rw [if_pos ho]
    by_cases ht : t ≤ to
    · rw [if_pos ht, if_pos this, if_neg (by omega), if_neg (by omega)]
    · rw [if_neg ht]
      by_cases hx : f < to
      · rw [if_pos hx, if_neg (by omega), if_pos (by omega)]
      · rw [if_neg hx, if_pos (by omega)]
  · rw [if_neg ho, if_pos this, if_neg (fun h => ho h.1), if_neg (fun h => ho h.1)]
theorem putK_none {c : List Slt} {x : Int} (h : ∀ s ∈ c, x < s.2.1) : c.filterMap (putK x) = [] := by
  rw [List.filterMap_eq_nil_iff]
  intro s hs
  unfold putK
  rw [if_neg (by have := h s hs; omega)]
theorem putK_with {s : Slt} (hs : s.1 < s.2.1) : ∀ {c : List Slt}, riseC c → fineC c → (∀ y ∈ c, s.2.1 ≤ y.1 ∨ y.2.1 ≤ s.1) → c.filterMap (putK s.1) ++ [s] ++ c.drop (c.filterMap (putK s.1)).length = withC s c
  | [], _, _, _ => by simp [withC]
  | y :: r, hr, hf, hc => by
    obtain ⟨h1, h2⟩ := List.pairwise_cons.1 hr
    have hy := hc y (by simp)
    have hfy := hf y (by simp)
    unfold withC
    by_cases h : y.2.1 ≤ s.1
    · have e : (y :: r).filterMap (putK s.1) = y :: r.filterMap (putK s.1) := by
        rw [List.filterMap_cons, putK, if_pos h]
      rw [e, if_neg (by omega)]
      have ih := putK_with hs h2 (fun z hz => hf z (by simp [hz])) (fun z hz => hc z (by simp [hz]))
      rw [← ih]
      simp
    · have e : (y :: r).filterMap (putK s.1) = [] := putK_none fun z hz => by
        rcases List.mem_cons.1 hz with rfl | hz
        · omega
        · have := h1 z hz
          have := hf z (by simp [hz])
          omega
      rw [e, if_pos (by omega)]
      simp

end Go.Proofs.Ytikjgfjahjlbaaa

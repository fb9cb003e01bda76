/-
  The statement TurnGroup, walked.
-/
import Derived.Test.YtanhhlekbdhfmaaDoorLawTurn
namespace Go.Proofs.YtanhhlekbdhfmaaDoor
open Go Go.RowKit Go.Shelf

attribute [local go_sem] Oper.semAt_some ext_const eq_ints_at eq_bools_at
attribute [local go_sem high] eq_wants

theorem turns_self (u : Wt) : u ∈ turnsT u := by
  by_cases h : turnT u = true
  · exact (turns_mem h).2 (by simp [six])
  · unfold turnsT
    rw [if_neg h]; simp
theorem turns_again {u v : Wt} (hu : mayT u) (hv : v ∈ turnsT u) : turnsT v = turnsT u := by
  by_cases h : turnT u = true
  · exact turns_same hu h hv
  · unfold turnsT at hv
    rw [if_neg h, List.mem_singleton] at hv
    rw [hv]
theorem turns_prod {u v : Wt} (hv : v ∈ turnsT u) : prodT v = prodT u ∧ toriT v = toriT u := by
  by_cases h : turnT u = true
  · exact six_prod ((turns_mem h).1 hv)
  · unfold turnsT at hv
    rw [if_neg h, List.mem_singleton] at hv
    rw [hv]; exact ⟨rfl, rfl⟩
theorem turns_of {u : Wt} {x y z : Int} {p q r t : Bool} (hv : (x, y, z, p, q, r, t) ∈ turnsT u) : ofT u x y z p q r = true := by
  unfold ofT
  exact List.any_eq_true.2 ⟨_, hv, by simp [hasTs, eqN, eqB]⟩
theorem mul3 {x y z : Int} (h : mayD x y z) : wrap64 (wrap64 (x * y) * z) = x * y * z := by
  unfold mayD okD at h
  have h1 : 0 ≤ x * y ∧ x * y ≤ 16 * 16 := ⟨Int.mul_nonneg (by omega) (by omega), Int.mul_le_mul (by omega) (by omega) (by omega) (by omega)⟩
  have h2 : 0 ≤ x * y * z ∧ x * y * z ≤ 16 * 16 * 16 := ⟨Int.mul_nonneg h1.1 (by omega), Int.mul_le_mul h1.2 (by omega) (by omega) (by omega)⟩
  rw [wrap_in (x * y) (by omega), wrap_in (x * y * z) (by omega)]

/-- What is known of one of the list. -/
structure One (l : List Wt) (u : Wt) (x y z : Int) (p q r t : Bool) (T N : Int) : Prop where
  may : mayD x y z
  same : turnsT (x, y, z, p, q, r, t) = l
  tori : toriT (x, y, z, p, q, r, t) = T
  prod : wrap64 (wrap64 (x * y) * z) = N
  of : ofT u x y z p q r = true

theorem one_of {u : Wt} {x y z : Int} {p q r t : Bool} (hu : mayT u) (hv : (x, y, z, p, q, r, t) ∈ turnsT u) : One (turnsT u) u x y z p q r t (toriT u) (prodT u) := by
  have hm := mayT_D.1 (turns_may hu hv).1
  exact ⟨hm, turns_again hu hv, (turns_prod hv).2, (mul3 hm).trans (turns_prod hv).1, turns_of hv⟩

theorem own_next {l : List Wt} {u x : Wt} {k : Nat} (hk : k < l.length) (hx : l.getD k default = x) : decide (u ∈ l.take (k + 1)) = (decide (u ∈ l.take k) || eqW x u) := by
  have e : l.take (k + 1) = l.take k ++ [x] := by
    rw [List.take_succ_eq_append_getElem hk, ← hx]
    simp [hk]
  rw [e, Bool.eq_iff_iff]
  simp only [decide_eq_true_eq, List.mem_append, List.mem_singleton, Bool.or_eq_true, eqW]
  exact or_congr Iff.rfl eq_comm
theorem apart_at {l : List Wt} {j k : Nat} {x y : Wt} (hn : l.Nodup) (hjk : j < k) (hk : k < l.length) (hx : l.getD j default = x) (hy : l.getD k default = y) : eqW x y = false := by
  have hj : j < l.length := by omega
  rw [← hx, ← hy]
  simp only [eqW, decide_eq_false_iff_not, List.getD_eq_getElem?_getD, List.getElem?_eq_getElem hj, List.getElem?_eq_getElem hk, Option.getD_some]
  intro e
  have := (List.getElem_inj hn).1 e
  omega

set_option maxRecDepth 100000 in
set_option maxHeartbeats 8000000 in
theorem tg_off {x y z : Int} {p q r t : Bool} (w : World) (hO : OrdOk w) (hm : ¬ mayD x y z) :
    Calls Tryd.prog 5 #[V7 x y z p q r t] w fun e W' => e = .returned (.bool true) ∧ Below w.heap.size w W' := by
  have HO : Hid (OrdOk w) := hO
  clear hO
  have A := fun (w : World) => all_no (p := p) (q := q) (r := r) (t := t) w hm
  have C := fun (w : World) => tcheck_no (p := p) (q := q) (r := r) (t := t) w hm
  clear hm
  have b0 := Blk.new w 29 (cells7 x y z p q r t)
  have hB0 : Below w.heap.size w (w.alloc (.cells (cells7 x y z p q r t) 29)) := (Below.refl _ w).alloc (Nat.le_refl _) _
  go_enter Tryd.func5, Tryd.ntmps5
  go_wp2_with fail
  generalize w.alloc (.cells (cells7 x y z p q r t) 29) = W at *
  refine (talive_calls _ (HO.out.later hB0)).mono ?_
  rintro e w1 ⟨rfl, hT⟩
  obtain ⟨s0, s1, s2, s3, s4, s5, s6⟩ := (b0.later hT).seven
  go_wp2_with fail
  refine (A _).mono ?_
  rintro e w2 ⟨rfl, hB⟩
  have hT := then_below hT hB
  clear s0 s1 s2 s3 s4 s5 s6
  obtain ⟨s0, s1, s2, s3, s4, s5, s6⟩ := (b0.later hT).seven
  go_wp2_with fail
  refine (C _).mono ?_
  rintro e w3 ⟨rfl, hB⟩
  have hT := then_below hT hB
  go_wp2
  go_ret
  exact ⟨rfl, then_below hB0 hT⟩

end Go.Proofs.YtanhhlekbdhfmaaDoor

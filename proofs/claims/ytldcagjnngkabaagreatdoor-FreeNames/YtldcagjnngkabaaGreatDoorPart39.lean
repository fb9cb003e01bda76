/-
  free.join, at sets (set.Or) and at bools (set.Meet); free.apart; free.taken.
-/
import Derived.Test.YtldcagjnngkabaaGreatDoorPart38
import Derived.Test.YtldcagjnngkabaaGreatDoorCalsNum
import Derived.Test.YtldcagjnngkabaaGreatDoorPart3
namespace Go.Proofs.YtldcagjnngkabaaGreatDoor
open Go Go.RowKit Go.Shelf

attribute [local go_sem] Oper.semAt_some ext_const

abbrev V2 (u v : Value) : Value := .agg #[u, v]
theorem Blk.both {W W' : World} {B : Nat} {t : TypeId} {u v : Value} (h : Blk W B t #[u, v]) (hb : Below W.heap.size W W') : W'.cell? ⟨B, 0, none⟩ = some u ∧ W'.cell? ⟨B, 1, none⟩ = some v ∧ B < W'.heap.size :=
  ⟨(h.later hb).cell 0, (h.later hb).cell 1, (h.later hb).lt⟩
/-- The first error of two. -/
def pairE (e1 e2 : Int) : Int := if e1 = 0 then e2 else e1
def pairB (e1 e2 : Int) (m : Bool) : Bool := decide (e1 = 0) && (decide (e2 = 0) && m)
def pairW (e1 e2 : Int) (ws : List Nat) : List Nat := if e1 = 0 then (if e2 = 0 then ws else []) else []
theorem pairE_0 (e2 : Int) : pairE 0 e2 = e2 := rfl
theorem pairE_1 {e1 : Int} (h : e1 ≠ 0) (e2 : Int) : pairE e1 e2 = e1 := by rw [pairE, if_neg h]
theorem pairB_0 (m : Bool) : pairB 0 0 m = m := by simp [pairB]
theorem pairB_1 {e1 : Int} (h : e1 ≠ 0) (e2 : Int) (m : Bool) : pairB e1 e2 m = false := by simp [pairB, h]
theorem pairB_2 {e2 : Int} (h : e2 ≠ 0) (e1 : Int) (m : Bool) : pairB e1 e2 m = false := by simp [pairB, h]
theorem pairW_0 (ws : List Nat) : pairW 0 0 ws = ws := by simp [pairW]
theorem pairW_1 {e1 : Int} (h : e1 ≠ 0) (e2 : Int) (ws : List Nat) : pairW e1 e2 ws = [] := by simp [pairW, h]
theorem pairW_2 {e2 : Int} (h : e2 ≠ 0) (e1 : Int) (ws : List Nat) : pairW e1 e2 ws = [] := by simp [pairW, h]

theorem Wds.form {W : World} {v : Value} {ws : List Nat} (h : Wds W v ws) : ∃ ao n c, v = .slice ao n c := by
  obtain ⟨ao, cap, e, _⟩ := h.view
  exact ⟨_, _, _, e⟩

set_option maxRecDepth 100000 in
set_option maxHeartbeats 8000000 in
theorem joinB_calls {d0 d1 d2 : Int} {a1 a2 b1 b2 : List Nat} {u1 u2 v1 v2 : Value} (w : World) (hm : mayD d0 d1 d2) (hu1 : Wds w u1 a1) (hu2 : Wds w u2 a2) (hv1 : Wds w v1 b1) (hv2 : Wds w v2 b2) :
    Calls Tryz.prog 61 #[A3 d0 d1 d2, V2 u1 u2, V2 v1 v2, .func (.func 62) #[] #[]] w fun e W' =>
      e = .returned (.tuple #[.bool (pairB (errAll (d0 * d1 * d2) [a1, b1]) (errAll (3 * (d0 * d1 * d2)) [a2, b2]) (meetSB (d0 * d1 * d2) a1 b1)), .bool (pairB (errAll (d0 * d1 * d2) [a1, b1]) (errAll (3 * (d0 * d1 * d2)) [a2, b2]) (meetSB (3 * (d0 * d1 * d2)) a2 b2)), I (pairE (errAll (d0 * d1 * d2) [a1, b1]) (errAll (3 * (d0 * d1 * d2)) [a2, b2]))]) ∧ Below w.heap.size w W' := by
  have HN : Hid (∀ w, Calls Tryz.prog 48 #[A3 d0 d1 d2] w fun e W' => e = .returned (.tuple #[I (d0 * d1 * d2), I 0]) ∧ Below w.heap.size w W') := fun w => many_yes w hm
  obtain ⟨W, hW, hB0, k0, k1, k2⟩ := three_boxes w #[I d0, I d1, I d2] #[u1, u2] #[v1, v2] 23 71 71
  have HW : Hid (((w.alloc (.cells #[I d0, I d1, I d2] 23)).alloc (.cells #[u1, u2] 71)).alloc (.cells #[v1, v2] 71) = W) := hW
  have H1 : Hid (∀ w', Below W.heap.size W w' → Calls Tryz.prog 62 #[I (d0 * d1 * d2), u1, v1] w' fun e W' => e = .returned (.tuple #[.bool (meetSB (d0 * d1 * d2) a1 b1), I (errAll (d0 * d1 * d2) [a1, b1])]) ∧ Below w'.heap.size w' W') := fun w' h => meet_calls w' (hu1.later (then_below hB0 h)) (hv1.later (then_below hB0 h)) _
  have H2 : Hid (∀ w', Below W.heap.size W w' → Calls Tryz.prog 62 #[I (3 * (d0 * d1 * d2)), u2, v2] w' fun e W' => e = .returned (.tuple #[.bool (meetSB (3 * (d0 * d1 * d2)) a2 b2), I (errAll (3 * (d0 * d1 * d2)) [a2, b2])]) ∧ Below w'.heap.size w' W') := fun w' h => meet_calls w' (hu2.later (then_below hB0 h)) (hv2.later (then_below hB0 h)) _
  obtain ⟨_, _, _, rfl⟩ := hu1.form
  obtain ⟨_, _, _, rfl⟩ := hu2.form
  obtain ⟨_, _, _, rfl⟩ := hv1.form
  obtain ⟨_, _, _, rfl⟩ := hv2.form
  have hbd := N_bd hm
  have hw3 : wrap64 (3 * (d0 * d1 * d2)) = 3 * (d0 * d1 * d2) := wrap_in _ (by omega)
  clear hW hu1 hu2 hv1 hv2 hm
  generalize meetSB (d0 * d1 * d2) a1 b1 = m1 at *
  generalize meetSB (3 * (d0 * d1 * d2)) a2 b2 = m2 at *
  generalize errAll (d0 * d1 * d2) [a1, b1] = e1 at *
  generalize errAll (3 * (d0 * d1 * d2)) [a2, b2] = e2 at *
  generalize d0 * d1 * d2 = N at *
  obtain ⟨c0, c1, c2, hz⟩ := k0.three (Below.refl _ _)
  by_cases h1 : e1 = 0
  · subst h1
    by_cases h2 : e2 = 0
    · subst h2
      rw [pairB_0, pairB_0, pairE_0]
      go_enter Tryz.func61, Tryz.ntmps61
      go_wp2_with fail
      rw [HW.out]
      refine (HN.out _).mono ?_
      rintro e w1 ⟨rfl, hT⟩
      obtain ⟨x0, x1, hz1⟩ := k1.both hT
      obtain ⟨y0, y1, hz2⟩ := k2.both hT
      go_wp2_with fail
      refine (H1.out _ hT).mono ?_
      rintro e w2 ⟨rfl, hT2⟩
      have hT := then_below hT hT2
      clear x0 x1 hz1 y0 y1 hz2
      obtain ⟨x0, x1, hz1⟩ := k1.both hT
      obtain ⟨y0, y1, hz2⟩ := k2.both hT
      go_wp2_with fail
      refine (H2.out _ hT).mono ?_
      rintro e w3 ⟨rfl, hT3⟩
      go_wp2
      exact bodyPost_ret (results_tmp3 rfl _ _ _) rfl ⟨rfl, then_below hB0 (then_below hT hT3)⟩
    · have hne : (e2 != 0) = true := by simpa using h2
      rw [pairB_2 h2, pairB_2 h2, pairE_0]
      clear h2
      go_enter Tryz.func61, Tryz.ntmps61
      go_wp2_with fail
      rw [HW.out]
      refine (HN.out _).mono ?_
      rintro e w1 ⟨rfl, hT⟩
      obtain ⟨x0, x1, hz1⟩ := k1.both hT
      obtain ⟨y0, y1, hz2⟩ := k2.both hT
      go_wp2_with fail
      refine (H1.out _ hT).mono ?_
      rintro e w2 ⟨rfl, hT2⟩
      have hT := then_below hT hT2
      clear x0 x1 hz1 y0 y1 hz2
      obtain ⟨x0, x1, hz1⟩ := k1.both hT
      obtain ⟨y0, y1, hz2⟩ := k2.both hT
      go_wp2_with fail
      refine (H2.out _ hT).mono ?_
      rintro e w3 ⟨rfl, hT3⟩
      go_wp2
      exact bodyPost_ret (results_tmp3 rfl _ _ _) rfl ⟨rfl, then_below hB0 (then_below hT hT3)⟩
  · have hne : (e1 != 0) = true := by simpa using h1
    rw [pairB_1 h1, pairB_1 h1, pairE_1 h1]
    clear h1
    go_enter Tryz.func61, Tryz.ntmps61
    go_wp2_with fail
    rw [HW.out]
    refine (HN.out _).mono ?_
    rintro e w1 ⟨rfl, hT⟩
    obtain ⟨x0, x1, hz1⟩ := k1.both hT
    obtain ⟨y0, y1, hz2⟩ := k2.both hT
    go_wp2_with fail
    refine (H1.out _ hT).mono ?_
    rintro e w2 ⟨rfl, hT2⟩
    go_wp2
    exact bodyPost_ret (results_tmp3 rfl _ _ _) rfl ⟨rfl, then_below hB0 (then_below hT hT2)⟩

set_option maxRecDepth 100000 in
set_option maxHeartbeats 8000000 in
theorem joinS_calls {d0 d1 d2 : Int} {a1 a2 b1 b2 : List Nat} {u1 u2 v1 v2 : Value} (w : World) (hm : mayD d0 d1 d2) (hu1 : Wds w u1 a1) (hu2 : Wds w u2 a2) (hv1 : Wds w v1 b1) (hv2 : Wds w v2 b2) :
    Calls Tryz.prog 27 #[A3 d0 d1 d2, V2 u1 u2, V2 v1 v2, .func (.func 22) #[] #[]] w fun e W' => ∃ x y,
      e = .returned (.tuple #[x, y, I (pairE (errAll (d0 * d1 * d2) [a1, b1]) (errAll (3 * (d0 * d1 * d2)) [a2, b2]))]) ∧
      SetR W' w.heap.size x (pairW (errAll (d0 * d1 * d2) [a1, b1]) (errAll (3 * (d0 * d1 * d2)) [a2, b2]) (joinW orW (d0 * d1 * d2) a1 b1)) ∧ SetR W' w.heap.size y (pairW (errAll (d0 * d1 * d2) [a1, b1]) (errAll (3 * (d0 * d1 * d2)) [a2, b2]) (joinW orW (3 * (d0 * d1 * d2)) a2 b2)) ∧ Below w.heap.size w W' := by
  have HN : Hid (∀ w, Calls Tryz.prog 48 #[A3 d0 d1 d2] w fun e W' => e = .returned (.tuple #[I (d0 * d1 * d2), I 0]) ∧ Below w.heap.size w W') := fun w => many_yes w hm
  obtain ⟨W, hW, hB0, k0, k1, k2⟩ := three_boxes w #[I d0, I d1, I d2] #[u1, u2] #[v1, v2] 23 71 71
  have HW : Hid (((w.alloc (.cells #[I d0, I d1, I d2] 23)).alloc (.cells #[u1, u2] 71)).alloc (.cells #[v1, v2] 71) = W) := hW
  have H1 : Hid (∀ w', Below W.heap.size W w' → Calls Tryz.prog 22 #[I (d0 * d1 * d2), u1, v1] w' fun e W' => ∃ x, e = .returned (.tuple #[x, I (errAll (d0 * d1 * d2) [a1, b1])]) ∧ SetR W' w'.heap.size x (joinW orW (d0 * d1 * d2) a1 b1) ∧ Below w'.heap.size w' W') := fun w' h => or_calls w' (hu1.later (then_below hB0 h)) (hv1.later (then_below hB0 h)) _
  have H2 : Hid (∀ w', Below W.heap.size W w' → Calls Tryz.prog 22 #[I (3 * (d0 * d1 * d2)), u2, v2] w' fun e W' => ∃ x, e = .returned (.tuple #[x, I (errAll (3 * (d0 * d1 * d2)) [a2, b2])]) ∧ SetR W' w'.heap.size x (joinW orW (3 * (d0 * d1 * d2)) a2 b2) ∧ Below w'.heap.size w' W') := fun w' h => or_calls w' (hu2.later (then_below hB0 h)) (hv2.later (then_below hB0 h)) _
  obtain ⟨_, _, _, rfl⟩ := hu1.form
  obtain ⟨_, _, _, rfl⟩ := hu2.form
  obtain ⟨_, _, _, rfl⟩ := hv1.form
  obtain ⟨_, _, _, rfl⟩ := hv2.form
  have hbd := N_bd hm
  have hw3 : wrap64 (3 * (d0 * d1 * d2)) = 3 * (d0 * d1 * d2) := wrap_in _ (by omega)
  clear hW hu1 hu2 hv1 hv2 hm
  generalize joinW orW (d0 * d1 * d2) a1 b1 = m1 at *
  generalize joinW orW (3 * (d0 * d1 * d2)) a2 b2 = m2 at *
  generalize errAll (d0 * d1 * d2) [a1, b1] = e1 at *
  generalize errAll (3 * (d0 * d1 * d2)) [a2, b2] = e2 at *
  generalize d0 * d1 * d2 = N at *
  obtain ⟨c0, c1, c2, hz⟩ := k0.three (Below.refl _ _)
  by_cases h1 : e1 = 0
  · subst h1
    by_cases h2 : e2 = 0
    · subst h2
      rw [pairW_0, pairW_0, pairE_0]
      go_enter Tryz.func27, Tryz.ntmps27
      go_wp2_with fail
      rw [HW.out]
      refine (HN.out _).mono ?_
      rintro e w1 ⟨rfl, hT⟩
      obtain ⟨x0, x1, hz1⟩ := k1.both hT
      obtain ⟨y0, y1, hz2⟩ := k2.both hT
      go_wp2_with fail
      refine (H1.out _ hT).mono ?_
      rintro e w2 ⟨r1, rfl, hR1, hT2⟩
      have hR1 : Hid (SetR w2 w1.heap.size r1 m1) := hR1
      have hsz := (then_below hB0 hT).size
      have hT := then_below hT hT2
      clear x0 x1 hz1 y0 y1 hz2
      obtain ⟨x0, x1, hz1⟩ := k1.both hT
      obtain ⟨y0, y1, hz2⟩ := k2.both hT
      go_wp2_with fail
      refine (H2.out _ hT).mono ?_
      rintro e w3 ⟨r2, rfl, hR2, hT3⟩
      have hR2 : Hid (SetR w3 w2.heap.size r2 m2) := hR2
      go_wp2
      exact bodyPost_ret (results_tmp3 rfl _ _ _) rfl ⟨_, _, rfl, (hR1.out.later hT3).weak hsz, hR2.out.weak (then_below hB0 hT).size, then_below hB0 (then_below hT hT3)⟩
    · have hne : (e2 != 0) = true := by simpa using h2
      rw [pairW_2 h2, pairW_2 h2, pairE_0]
      clear h2
      go_enter Tryz.func27, Tryz.ntmps27
      go_wp2_with fail
      rw [HW.out]
      refine (HN.out _).mono ?_
      rintro e w1 ⟨rfl, hT⟩
      obtain ⟨x0, x1, hz1⟩ := k1.both hT
      obtain ⟨y0, y1, hz2⟩ := k2.both hT
      go_wp2_with fail
      refine (H1.out _ hT).mono ?_
      rintro e w2 ⟨r1, rfl, hR1, hT2⟩
      have hT := then_below hT hT2
      clear x0 x1 hz1 y0 y1 hz2 hR1
      obtain ⟨x0, x1, hz1⟩ := k1.both hT
      obtain ⟨y0, y1, hz2⟩ := k2.both hT
      go_wp2_with fail
      refine (H2.out _ hT).mono ?_
      rintro e w3 ⟨r2, rfl, hR2, hT3⟩
      clear hR2
      go_wp2
      exact bodyPost_ret (results_tmp3 rfl _ _ _) rfl ⟨_, _, rfl, .inr ⟨rfl, rfl⟩, .inr ⟨rfl, rfl⟩, then_below hB0 (then_below hT hT3)⟩
  · have hne : (e1 != 0) = true := by simpa using h1
    rw [pairW_1 h1, pairW_1 h1, pairE_1 h1]
    clear h1
    go_enter Tryz.func27, Tryz.ntmps27
    go_wp2_with fail
    rw [HW.out]
    refine (HN.out _).mono ?_
    rintro e w1 ⟨rfl, hT⟩
    obtain ⟨x0, x1, hz1⟩ := k1.both hT
    obtain ⟨y0, y1, hz2⟩ := k2.both hT
    go_wp2_with fail
    refine (H1.out _ hT).mono ?_
    rintro e w2 ⟨r1, rfl, hR1, hT2⟩
    clear hR1
    go_wp2
    exact bodyPost_ret (results_tmp3 rfl _ _ _) rfl ⟨_, _, rfl, .inr ⟨rfl, rfl⟩, .inr ⟨rfl, rfl⟩, then_below hB0 (then_below hT hT2)⟩

/-- Whether two pairs of sets have nothing in common. -/
def farB (N : Int) (a1 a2 b1 b2 : List Nat) : Bool := decide (pairE (errAll N [a1, b1]) (errAll (3 * N) [a2, b2]) = 0) && (!meetSB N a1 b1 && !meetSB (3 * N) a2 b2)
theorem farB_no {N : Int} {a1 a2 b1 b2 : List Nat} (h : pairE (errAll N [a1, b1]) (errAll (3 * N) [a2, b2]) ≠ 0) : farB N a1 a2 b1 b2 = false := by simp [farB, h]
theorem pairE_ok {e1 e2 : Int} (h : pairE e1 e2 = 0) : e1 = 0 ∧ e2 = 0 := by
  unfold pairE at h
  by_cases h1 : e1 = 0
  · rw [if_pos h1] at h; exact ⟨h1, h⟩
  · rw [if_neg h1] at h; exact absurd h h1

set_option maxRecDepth 100000 in
set_option maxHeartbeats 8000000 in
theorem fapart_calls {d0 d1 d2 : Int} {a1 a2 b1 b2 : List Nat} {u1 u2 v1 v2 : Value} (w : World) (hm : mayD d0 d1 d2) (hu1 : Wds w u1 a1) (hu2 : Wds w u2 a2) (hv1 : Wds w v1 b1) (hv2 : Wds w v2 b2) :
    Calls Tryz.prog 30 #[A3 d0 d1 d2, V2 u1 u2, V2 v1 v2] w fun e W' =>
      e = .returned (.tuple #[.bool (farB (d0 * d1 * d2) a1 a2 b1 b2), I (pairE (errAll (d0 * d1 * d2) [a1, b1]) (errAll (3 * (d0 * d1 * d2)) [a2, b2]))]) ∧ Below w.heap.size w W' := by
  obtain ⟨W, hW, hB0, k0, k1, k2⟩ := three_boxes w #[I d0, I d1, I d2] #[u1, u2] #[v1, v2] 23 71 71
  have HW : Hid (((w.alloc (.cells #[I d0, I d1, I d2] 23)).alloc (.cells #[u1, u2] 71)).alloc (.cells #[v1, v2] 71) = W) := hW
  have HJ := joinB_calls W hm (hu1.later hB0) (hu2.later hB0) (hv1.later hB0) (hv2.later hB0)
  obtain ⟨_, _, _, rfl⟩ := hu1.form
  obtain ⟨_, _, _, rfl⟩ := hu2.form
  obtain ⟨_, _, _, rfl⟩ := hv1.form
  obtain ⟨_, _, _, rfl⟩ := hv2.form
  have HX : Hid (pairE (errAll (d0 * d1 * d2) [a1, b1]) (errAll (3 * (d0 * d1 * d2)) [a2, b2]) ≠ 0 → farB (d0 * d1 * d2) a1 a2 b1 b2 = false) := farB_no
  have HY : Hid (pairE (errAll (d0 * d1 * d2) [a1, b1]) (errAll (3 * (d0 * d1 * d2)) [a2, b2]) = 0 → pairB (errAll (d0 * d1 * d2) [a1, b1]) (errAll (3 * (d0 * d1 * d2)) [a2, b2]) (meetSB (d0 * d1 * d2) a1 b1) = meetSB (d0 * d1 * d2) a1 b1 ∧
      pairB (errAll (d0 * d1 * d2) [a1, b1]) (errAll (3 * (d0 * d1 * d2)) [a2, b2]) (meetSB (3 * (d0 * d1 * d2)) a2 b2) = meetSB (3 * (d0 * d1 * d2)) a2 b2 ∧ farB (d0 * d1 * d2) a1 a2 b1 b2 = (!meetSB (d0 * d1 * d2) a1 b1 && !meetSB (3 * (d0 * d1 * d2)) a2 b2)) := fun h => by
    obtain ⟨h1, h2⟩ := pairE_ok h
    refine ⟨?_, ?_, ?_⟩
    · rw [h1, h2, pairB_0]
    · rw [h1, h2, pairB_0]
    · rw [farB, h]; simp
  have HJ : Hid (Calls Tryz.prog 61 #[A3 d0 d1 d2, V2 _ _, V2 _ _, .func (.func 62) #[] #[]] W fun e W' => e = .returned (.tuple #[.bool (pairB (errAll (d0 * d1 * d2) [a1, b1]) (errAll (3 * (d0 * d1 * d2)) [a2, b2]) (meetSB (d0 * d1 * d2) a1 b1)), .bool (pairB (errAll (d0 * d1 * d2) [a1, b1]) (errAll (3 * (d0 * d1 * d2)) [a2, b2]) (meetSB (3 * (d0 * d1 * d2)) a2 b2)), I (pairE (errAll (d0 * d1 * d2) [a1, b1]) (errAll (3 * (d0 * d1 * d2)) [a2, b2]))]) ∧ Below W.heap.size W W') := HJ
  generalize pairB (errAll (d0 * d1 * d2) [a1, b1]) (errAll (3 * (d0 * d1 * d2)) [a2, b2]) (meetSB (d0 * d1 * d2) a1 b1) = q1 at *
  generalize pairB (errAll (d0 * d1 * d2) [a1, b1]) (errAll (3 * (d0 * d1 * d2)) [a2, b2]) (meetSB (3 * (d0 * d1 * d2)) a2 b2) = q2 at *
  generalize pairE (errAll (d0 * d1 * d2) [a1, b1]) (errAll (3 * (d0 * d1 * d2)) [a2, b2]) = er at *
  generalize meetSB (d0 * d1 * d2) a1 b1 = m1 at *
  generalize meetSB (3 * (d0 * d1 * d2)) a2 b2 = m2 at *
  generalize farB (d0 * d1 * d2) a1 a2 b1 b2 = r at *
  clear hW hu1 hu2 hv1 hv2 hm
  obtain ⟨c0, c1, c2, hz⟩ := k0.three (Below.refl _ _)
  obtain ⟨x0, x1, hz1⟩ := k1.both (Below.refl _ _)
  obtain ⟨y0, y1, hz2⟩ := k2.both (Below.refl _ _)
  by_cases h : er = 0
  · subst h
    obtain ⟨rfl, rfl, rfl⟩ := HY.out (by trivial)
    clear HX HY
    cases q1 <;> cases q2
    all_goals
      go_enter Tryz.func30, Tryz.ntmps30
      go_wp2_with fail
      rw [HW.out]
      refine HJ.out.mono ?_
      rintro e w1 ⟨rfl, hT⟩
      go_wp2
      go_ret2
      exact ⟨rfl, then_below hB0 hT⟩
  · obtain rfl := HX.out h
    have hne : (er != 0) = true := by simpa using h
    clear HX HY h
    go_enter Tryz.func30, Tryz.ntmps30
    go_wp2_with fail
    rw [HW.out]
    refine HJ.out.mono ?_
    rintro e w1 ⟨rfl, hT⟩
    go_wp2
    go_ret2
    exact ⟨rfl, then_below hB0 hT⟩

end Go.Proofs.YtldcagjnngkabaaGreatDoor

/-
  free.taken, free.Holds: what a place takes; whether it takes nothing that is in some sets.
-/
namespace Go.Proofs.YtldcagjnngkabaaGreatDoor
open Go Go.RowKit Go.Shelf

attribute [local go_sem] Oper.semAt_some ext_const

theorem SetR.slice {W : World} {base : Nat} {v : Value} {ws : List Nat} (h : SetR W base v ws) : ∃ ao n c, v = .slice ao n c := h.wds.form
theorem SetR.apart {W : World} {base B : Nat} {v : Value} {ws : List Nat} (h : SetR W base v ws) (hB : B < base) (i : Nat) (x : Value) : SetR (W.setCell ⟨B, i, none⟩ x) base v ws := by
  rcases h with ⟨h1, g, e, hg, hk⟩ | h
  · exact .inl ⟨h1, g, e, hg, hk.other i x (by omega)⟩
  · exact .inr h

set_option maxRecDepth 100000 in
set_option maxHeartbeats 8000000 in
theorem taken_ok {d0 d1 d2 : Int} {b : Bx} {t0 t1 t2 : Bool} (w : World) (hm : mayD d0 d1 d2) (hp : mayP d0 d1 d2 b t0 t1 t2) :
    Calls Tryz.prog 29 #[A3 d0 d1 d2, P9 b t0 t1 t2] w fun e W' => ∃ u v, e = .returned (.tuple #[V2 u v, I 0]) ∧ SetR W' w.heap.size u (midW d0 d1 d2 b) ∧ SetR W' w.heap.size v (cabsW d0 d1 d2 b t0 t1 t2) ∧ Below w.heap.size w W' := by
  have HS : Hid (∀ w, Calls Tryz.prog 60 #[A3 d0 d1 d2, P9 b t0 t1 t2] w fun e W' => ∃ u v, e = .returned (.tuple #[u, v, I 0]) ∧ SetR W' w.heap.size u (midW d0 d1 d2 b) ∧ SetR W' w.heap.size v (cabsW d0 d1 d2 b t0 t1 t2) ∧ Below w.heap.size w W') := fun w => sets_ok w hm hp
  obtain ⟨W, hW, hB0, k0, k1, k2⟩ := three_boxes w #[I d0, I d1, I d2] (C9 b t0 t1 t2) #[.slice none 0 0, .slice none 0 0] 23 43 71
  have HW : Hid (((w.alloc (.cells #[I d0, I d1, I d2] 23)).alloc (.cells (C9 b t0 t1 t2) 43)).alloc (.cells #[.slice none 0 0, .slice none 0 0] 71) = W) := hW
  clear hm hp hW
  generalize midW d0 d1 d2 b = S at *
  generalize cabsW d0 d1 d2 b t0 t1 t2 = S' at *
  have hlt := k2.lt
  obtain ⟨c0, c1, c2, hz⟩ := k0.three (Below.refl _ _)
  obtain ⟨⟨x0, x1, x2⟩, ⟨x3, x4, x5⟩, ⟨x6, x7, x8⟩, hz1⟩ := k1.nine (Below.refl _ _)
  go_enter Tryz.func29, Tryz.ntmps29
  go_wp2_with fail
  rw [HW.out]
  refine (HS.out _).mono ?_
  rintro e w1 ⟨u, v, rfl, hu, hv, hT⟩
  obtain ⟨a1, n1, e1, rfl⟩ := hu.slice
  obtain ⟨a2, n2, e2, rfl⟩ := hv.slice
  have hu1 := (hu.apart hlt 0 (.slice a1 n1 e1)).apart hlt 1 (.slice a2 n2 e2)
  have hv1 := (hv.apart hlt 0 (.slice a1 n1 e1)).apart hlt 1 (.slice a2 n2 e2)
  have hlow := ((then_below hB0 hT).setCell (p := ⟨w.heap.size + 1 + 1, 0, none⟩) (show w.heap.size ≤ w.heap.size + 1 + 1 by omega) (.slice a1 n1 e1)).setCell (p := ⟨w.heap.size + 1 + 1, 1, none⟩) (show w.heap.size ≤ w.heap.size + 1 + 1 by omega) (.slice a2 n2 e2)
  have hb1 := k2.later hT
  have hb2 := hb1.set 0 (.slice a1 n1 e1)
  have hb3 := hb2.set 1 (.slice a2 n2 e2)
  obtain ⟨p0, p1, hzz⟩ := k2.both hT
  have f0 := hb1.frozen 0
  have f1 := hb1.frozen 1
  have g1 := hb2.frozen 1
  have q1 := hb2.cell 1
  have j0 := hb3.cell 0
  have j1 := hb3.cell 1
  simp at q1 j0 j1
  have HF : Hid (SetR ((w1.setCell ⟨w.heap.size + 1 + 1, 0, none⟩ (.slice a1 n1 e1)).setCell ⟨w.heap.size + 1 + 1, 1, none⟩ (.slice a2 n2 e2)) w.heap.size (.slice a1 n1 e1) S ∧ SetR ((w1.setCell ⟨w.heap.size + 1 + 1, 0, none⟩ (.slice a1 n1 e1)).setCell ⟨w.heap.size + 1 + 1, 1, none⟩ (.slice a2 n2 e2)) w.heap.size (.slice a2 n2 e2) S' ∧ Below w.heap.size w ((w1.setCell ⟨w.heap.size + 1 + 1, 0, none⟩ (.slice a1 n1 e1)).setCell ⟨w.heap.size + 1 + 1, 1, none⟩ (.slice a2 n2 e2))) := ⟨hu1.weak hB0.size, hv1.weak hB0.size, hlow⟩
  clear hu hv hu1 hv1 hlow hb1 hb2 hb3 c0 c1 c2 hz x0 x1 x2 x3 x4 x5 x6 x7 x8 hz1
  go_wp2
  exact bodyPost_ret (v := .tuple #[V2 (.slice a1 n1 e1) (.slice a2 n2 e2), I 0]) (by simp [results, Tryz.f29, go_sem, j0, j1]) rfl ⟨_, _, rfl, HF.out.1, HF.out.2.1, HF.out.2.2⟩

set_option maxRecDepth 100000 in
set_option maxHeartbeats 8000000 in
theorem taken_err {d0 d1 d2 : Int} {b : Bx} (t0 t1 t2 : Bool) (w : World) (he : (errP d0 d1 d2 b t0 t1 t2 != 0) = true) :
    Calls Tryz.prog 29 #[A3 d0 d1 d2, P9 b t0 t1 t2] w fun e W' => e = .returned (.tuple #[V2 (.slice none 0 0) (.slice none 0 0), I (errP d0 d1 d2 b t0 t1 t2)]) ∧ Below w.heap.size w W' := by
  have HS : Hid (∀ w, Calls Tryz.prog 60 #[A3 d0 d1 d2, P9 b t0 t1 t2] w fun e W' => e = .returned (.tuple #[.slice none 0 0, .slice none 0 0, I (errP d0 d1 d2 b t0 t1 t2)]) ∧ Below w.heap.size w W') := fun w => sets_err t0 t1 t2 w he
  generalize errP d0 d1 d2 b t0 t1 t2 = er at *
  obtain ⟨W, hW, hB0, k0, k1, k2⟩ := three_boxes w #[I d0, I d1, I d2] (C9 b t0 t1 t2) #[.slice none 0 0, .slice none 0 0] 23 43 71
  have HW : Hid (((w.alloc (.cells #[I d0, I d1, I d2] 23)).alloc (.cells (C9 b t0 t1 t2) 43)).alloc (.cells #[.slice none 0 0, .slice none 0 0] 71) = W) := hW
  clear hW he
  obtain ⟨c0, c1, c2, hz⟩ := k0.three (Below.refl _ _)
  obtain ⟨⟨x0, x1, x2⟩, ⟨x3, x4, x5⟩, ⟨x6, x7, x8⟩, hz1⟩ := k1.nine (Below.refl _ _)
  go_enter Tryz.func29, Tryz.ntmps29
  go_wp2_with fail
  rw [HW.out]
  refine (HS.out _).mono ?_
  rintro e w1 ⟨rfl, hT⟩
  have hlow := ((then_below hB0 hT).setCell (p := ⟨w.heap.size + 1 + 1, 0, none⟩) (show w.heap.size ≤ w.heap.size + 1 + 1 by omega) (.slice none 0 0)).setCell (p := ⟨w.heap.size + 1 + 1, 1, none⟩) (show w.heap.size ≤ w.heap.size + 1 + 1 by omega) (.slice none 0 0)
  have hb1 := k2.later hT
  have hb2 := hb1.set 0 (.slice none 0 0)
  have hb3 := hb2.set 1 (.slice none 0 0)
  obtain ⟨p0, p1, hzz⟩ := k2.both hT
  have f0 := hb1.frozen 0
  have f1 := hb1.frozen 1
  have g1 := hb2.frozen 1
  have q1 := hb2.cell 1
  have j0 := hb3.cell 0
  have j1 := hb3.cell 1
  simp at q1 j0 j1
  have HF : Hid (Below w.heap.size w ((w1.setCell ⟨w.heap.size + 1 + 1, 0, none⟩ (.slice none 0 0)).setCell ⟨w.heap.size + 1 + 1, 1, none⟩ (.slice none 0 0))) := hlow
  clear hlow hb1 hb2 hb3 c0 c1 c2 hz x0 x1 x2 x3 x4 x5 x6 x7 x8 hz1
  go_wp2
  exact bodyPost_ret (v := .tuple #[V2 (.slice none 0 0) (.slice none 0 0), I er]) (by simp [results, Tryz.f29, go_sem, j0, j1]) rfl ⟨rfl, HF.out⟩

/-- The error of two sets that are to be avoided; whether a place is free of them. -/
def avoE (N : Int) (S1 S2 mw lw : List Nat) : Int := pairE (errAll N [S1, mw]) (errAll (3 * N) [S2, lw])
set_option maxRecDepth 100000 in
set_option maxHeartbeats 8000000 in
theorem holds_ok {d0 d1 d2 : Int} {b : Bx} {t0 t1 t2 : Bool} {mw lw : List Nat} {vm vl : Value} (w : World) (hm : mayD d0 d1 d2) (hp : mayP d0 d1 d2 b t0 t1 t2) (hM : Wds w vm mw) (hL : Wds w vl lw) :
    Calls Tryz.prog 12 #[A3 d0 d1 d2, P9 b t0 t1 t2, vm, vl] w fun e W' => e = .returned (.tuple #[.bool (farB (d0 * d1 * d2) (midW d0 d1 d2 b) (cabsW d0 d1 d2 b t0 t1 t2) mw lw), I (avoE (d0 * d1 * d2) (midW d0 d1 d2 b) (cabsW d0 d1 d2 b t0 t1 t2) mw lw)]) ∧ Below w.heap.size w W' := by
  have HS : Hid (∀ w, Calls Tryz.prog 29 #[A3 d0 d1 d2, P9 b t0 t1 t2] w fun e W' => ∃ u v, e = .returned (.tuple #[V2 u v, I 0]) ∧ SetR W' w.heap.size u (midW d0 d1 d2 b) ∧ SetR W' w.heap.size v (cabsW d0 d1 d2 b t0 t1 t2) ∧ Below w.heap.size w W') := fun w => taken_ok w hm hp
  have HA : Hid (∀ w u v vm vl, Wds w u (midW d0 d1 d2 b) → Wds w v (cabsW d0 d1 d2 b t0 t1 t2) → Wds w vm mw → Wds w vl lw → Calls Tryz.prog 30 #[A3 d0 d1 d2, V2 u v, V2 vm vl] w fun e W' => e = .returned (.tuple #[.bool (farB (d0 * d1 * d2) (midW d0 d1 d2 b) (cabsW d0 d1 d2 b t0 t1 t2) mw lw), I (avoE (d0 * d1 * d2) (midW d0 d1 d2 b) (cabsW d0 d1 d2 b t0 t1 t2) mw lw)]) ∧ Below w.heap.size w W') := fun w u v vm vl h1 h2 h3 h4 => fapart_calls w hm h1 h2 h3 h4
  obtain ⟨W, hW, hB0, k0, k1⟩ := two_start w #[I d0, I d1, I d2] (C9 b t0 t1 t2) 23 43
  have HW : Hid ((w.alloc (.cells #[I d0, I d1, I d2] 23)).alloc (.cells (C9 b t0 t1 t2) 43) = W) := hW
  have HM : Hid (Wds W vm mw) := hM.later hB0
  have HL : Hid (Wds W vl lw) := hL.later hB0
  obtain ⟨a3, n3, e3, rfl⟩ := hM.form
  obtain ⟨a4, n4, e4, rfl⟩ := hL.form
  clear hm hp hW hM hL
  generalize midW d0 d1 d2 b = S at *
  generalize cabsW d0 d1 d2 b t0 t1 t2 = S' at *
  generalize farB (d0 * d1 * d2) S S' mw lw = r at *
  generalize avoE (d0 * d1 * d2) S S' mw lw = er at *
  obtain ⟨c0, c1, c2, hz⟩ := k0.three (Below.refl _ _)
  obtain ⟨⟨x0, x1, x2⟩, ⟨x3, x4, x5⟩, ⟨x6, x7, x8⟩, hz1⟩ := k1.nine (Below.refl _ _)
  go_enter Tryz.func12, Tryz.ntmps12
  go_wp2_with fail
  rw [HW.out]
  refine (HS.out _).mono ?_
  rintro e w1 ⟨u, v, rfl, hu, hv, hT⟩
  obtain ⟨a1, n1, e1, rfl⟩ := hu.slice
  obtain ⟨a2, n2, e2, rfl⟩ := hv.slice
  obtain ⟨W1, hW1, hB1, k2⟩ := one_start w1 #[.slice a1 n1 e1, .slice a2 n2 e2] 71
  have HW1 : Hid (w1.alloc (.cells #[.slice a1 n1 e1, .slice a2 n2 e2] 71) = W1) := hW1
  have HU : Hid (Wds W1 (.slice a1 n1 e1) S) := (hu.later hB1).wds
  have HV : Hid (Wds W1 (.slice a2 n2 e2) S') := (hv.later hB1).wds
  have HM1 : Hid (Wds W1 (.slice a3 n3 e3) mw) := HM.out.later (then_below hT hB1)
  have HL1 : Hid (Wds W1 (.slice a4 n4 e4) lw) := HL.out.later (then_below hT hB1)
  have hT1 := then_below hT hB1
  clear hu hv hW1 c0 c1 c2 hz x0 x1 x2 x3 x4 x5 x6 x7 x8 hz1
  obtain ⟨c0, c1, c2, hz⟩ := k0.three hT
  clear k2
  go_wp2_with fail
  rw [HW1.out]
  refine (HA.out _ _ _ _ _ HU.out HV.out HM1.out HL1.out).mono ?_
  rintro e w2 ⟨rfl, hT2⟩
  go_wp2
  go_ret2
  exact ⟨rfl, then_below hB0 (then_below hT1 hT2)⟩

set_option maxRecDepth 100000 in
set_option maxHeartbeats 8000000 in
theorem holds_err {d0 d1 d2 : Int} {b : Bx} (t0 t1 t2 : Bool) {vm vl : Value} (w : World) (he : (errP d0 d1 d2 b t0 t1 t2 != 0) = true) :
    Calls Tryz.prog 12 #[A3 d0 d1 d2, P9 b t0 t1 t2, vm, vl] w fun e W' => e = .returned (.tuple #[.bool false, I (errP d0 d1 d2 b t0 t1 t2)]) ∧ Below w.heap.size w W' := by
  have HS : Hid (∀ w, Calls Tryz.prog 29 #[A3 d0 d1 d2, P9 b t0 t1 t2] w fun e W' => e = .returned (.tuple #[V2 (.slice none 0 0) (.slice none 0 0), I (errP d0 d1 d2 b t0 t1 t2)]) ∧ Below w.heap.size w W') := fun w => taken_err t0 t1 t2 w he
  generalize errP d0 d1 d2 b t0 t1 t2 = er at *
  obtain ⟨W, hW, hB0, k0, k1⟩ := two_start w #[I d0, I d1, I d2] (C9 b t0 t1 t2) 23 43
  have HW : Hid ((w.alloc (.cells #[I d0, I d1, I d2] 23)).alloc (.cells (C9 b t0 t1 t2) 43) = W) := hW
  clear hW
  obtain ⟨c0, c1, c2, hz⟩ := k0.three (Below.refl _ _)
  obtain ⟨⟨x0, x1, x2⟩, ⟨x3, x4, x5⟩, ⟨x6, x7, x8⟩, hz1⟩ := k1.nine (Below.refl _ _)
  go_enter Tryz.func12, Tryz.ntmps12
  go_wp2_with fail
  rw [HW.out]
  refine (HS.out _).mono ?_
  rintro e w1 ⟨rfl, hT⟩
  clear c0 c1 c2 hz x0 x1 x2 x3 x4 x5 x6 x7 x8 hz1
  go_wp2
  go_ret2
  exact ⟨rfl, then_alloc (then_below hB0 hT) _⟩

end Go.Proofs.YtldcagjnngkabaaGreatDoor

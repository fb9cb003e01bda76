/-
  Small functions of layer 4's statements: a shape without a torus, how many tori, whether two lists are the same, the chapter's first examples; the statement TurnNames, walked.
-/
import Derived.Test.YtanhhlekbdhfmaaDoorRefAsk
namespace Go.Proofs.YtanhhlekbdhfmaaDoor
open Go Go.RowKit Go.Shelf

attribute [local go_sem] Oper.semAt_some ext_const eq_ints_at eq_bools_at
attribute [local go_sem high] eq_wants

set_option maxRecDepth 100000 in
theorem shaped_calls (a b c : Int) (t : Bool) (w : World) : Calls Tryd.prog 8 #[I a, I b, I c, .bool t] w fun e W' => e = .returned (V7 a b c false false false t) ∧ Below w.heap.size w W' := by
  have hB : Below w.heap.size w (w.alloc (.cells (cells7 a b c false false false t) 29)) := (Below.refl _ w).alloc (Nat.le_refl _) _
  go_enter Tryd.func8, Tryd.ntmps8
  go_wp2
  exact bodyPost_ret (v := V7 a b c false false false t) (by simp [results, Tryd.f8, go_sem]) rfl ⟨rfl, hB⟩

set_option maxRecDepth 100000 in
set_option maxHeartbeats 2000000 in
theorem tori_calls (x y z : Int) (p q r t : Bool) (w : World) : Calls Tryd.prog 18 #[V7 x y z p q r t] w fun e W' => e = .returned (.int .i64 (toriT (x, y, z, p, q, r, t))) ∧ Below w.heap.size w W' := by
  have hB : Below w.heap.size w (w.alloc (.cells (cells7 x y z p q r t) 29)) := (Below.refl _ w).alloc (Nat.le_refl _) _
  have e : toriT (x, y, z, p, q, r, t) = bit p + bit q + bit r := rfl
  rw [e]
  clear e
  cases p <;> cases q <;> cases r <;>
  · simp only [bit, if_true, Bool.false_eq_true, if_false]
    go_enter Tryd.func18, Tryd.ntmps18
    go_wp2
    refine wp_loop_rounds 4 ?_
    rw [rounds_succ]
    go_wp2
    rw [rounds_succ]
    go_wp2
    rw [rounds_succ]
    go_wp2
    rw [rounds_succ]
    go_wp2
    go_ret
    exact ⟨rfl, hB⟩

/-- Two lists are the same. -/
def eqL : List Wt → List Wt → Bool
  | [], [] => true
  | a :: l, b :: m => eqW a b && eqL l m
  | _, _ => false
theorem eqL_iff : ∀ {l m : List Wt}, eqL l m = true ↔ l = m
  | [], [] => by simp [eqL]
  | [], b :: m => by simp [eqL]
  | a :: l, [] => by simp [eqL]
  | a :: l, b :: m => by
    have ih := eqL_iff (l := l) (m := m)
    simp only [eqL, Bool.and_eq_true, ih, List.cons.injEq, eqW, decide_eq_true_eq]
theorem eqL_self (l : List Wt) : eqL l l = true := eqL_iff.2 rfl
theorem eqL_not {l m : List Wt} (h : l ≠ m) : eqL l m = false := by
  cases e : eqL l m
  · rfl
  · exact absurd (eqL_iff.1 e) h

theorem takeT_succ {xs ys : List Wt} {k : Nat} (hx : k < xs.length) (hy : k < ys.length) (h : xs.take k = ys.take k) (he : xs.getD k default = ys.getD k default) : xs.take (k + 1) = ys.take (k + 1) := by
  rw [List.take_succ_eq_append_getElem hx, List.take_succ_eq_append_getElem hy, h]
  simp [hx, hy] at he
  rw [he]

set_option maxRecDepth 100000 in
set_option maxHeartbeats 2000000 in
theorem same_calls {xs ys : List Wt} {u v : Value} {b1 b2 : Nat} (w : World) (hu : Wl w b1 u xs) (hv : Wl w b2 v ys) (hx : xs.length ≤ 100) :
    Calls Tryd.prog 17 #[u, v] w fun e W' => e = .returned (.bool (eqL xs ys)) ∧ Below w.heap.size w W' := by
  have hmx : Tryd.prog.follows .mixedOrders = true := by kernel_rfl
  obtain ⟨ao, cap, rfl, _⟩ := hu.view
  obtain ⟨ao', cap', rfl, _⟩ := hv.view
  have HA : Hid (Wl w b1 (.slice ao xs.length cap) xs) := hu
  have HB : Hid (Wl w b2 (.slice ao' ys.length cap') ys) := hv
  clear hu hv
  obtain ⟨ans, hans⟩ : ∃ ans, ans = eqL xs ys := ⟨_, rfl⟩
  rw [← hans]
  have HS : Hid (ans = eqL xs ys) := hans
  clear hans
  by_cases hl : (xs.length : Int) = ys.length
  · have hl' : ys.length = xs.length := by omega
    clear hl
    have HL : Hid (ys.length = xs.length) := hl'
    rw [hl'] at HB ⊢
    clear hl'
    go_enter Tryd.func17, Tryd.ntmps17
    go_wp2
    go_loopw [5] (fun i wr => ∃ k : Nat, k ≤ xs.length ∧ i = .int .i64 k ∧ Hid (xs.take k = ys.take k) ∧ Below w.heap.size w wr) (fun i _ => xs.length - (intOf i).toNat)
    case atStart => exact ⟨0, by omega, rfl, by show _ = _; simp, Below.refl _ _⟩
    case round =>
      obtain ⟨k, hk, rfl, HT, hT⟩ := hrel
      by_cases hlt : (k : Int) < (xs.length : Int)
      · have hkx : k < xs.length := by omega
        have hky : k < ys.length := by have := HL.out; omega
        obtain ⟨g, x1, y1, z1, p1, q1, r1, t1, rfl, hu1, hat1⟩ := Wl.at (HA.out.later hT) hkx
        obtain ⟨g', x2, y2, z2, p2, q2, r2, t2, rfl, hu2, hat2⟩ := Wl.at (HB.out.later hT) hky
        obtain ⟨c0, c1, c2, c3, c4, c5, c6⟩ := hat1.ext
        obtain ⟨d0, d1, d2, d3, d4, d5, d6⟩ := hat2.ext
        have HE : Hid (eqW (x1, y1, z1, p1, q1, r1, t1) (x2, y2, z2, p2, q2, r2, t2) = true → xs.take (k + 1) = ys.take (k + 1)) := fun h => takeT_succ hkx hky HT.out (by rw [hu1, hu2]; simpa [eqW] using h)
        have HD : Hid (eqW (x1, y1, z1, p1, q1, r1, t1) (x2, y2, z2, p2, q2, r2, t2) = false → ans = false) := fun h => by
          rw [HS.out]
          refine eqL_not fun he => ?_
          have : (x1, y1, z1, p1, q1, r1, t1) = (x2, y2, z2, p2, q2, r2, t2) := by rw [← hu1, ← hu2, he]
          rw [this, eqW_self] at h
          cases h
        clear hu1 hu2 hat1 hat2
        cases hq : eqW (x1, y1, z1, p1, q1, r1, t1) (x2, y2, z2, p2, q2, r2, t2)
        · have hans := HD.out hq
          subst hans
          go_wp2
          refine wp_region_look hmx (by kernel_rfl) ?_
          repeat (go_big_quiet_step (fail))
          refine wpQuiet_nil ?_
          intro X
          go_wp2
          go_ret
          exact ⟨rfl, then_below hT X.le⟩
        · have HN : Hid (xs.take (k + 1) = ys.take (k + 1)) := HE.out hq
          go_wp2
          refine wp_region_look hmx (by kernel_rfl) ?_
          repeat (go_big_quiet_step (fail))
          refine wpQuiet_nil ?_
          intro X
          go_wp2
          go_roundw
          case rel => exact ⟨k + 1, by omega, by go_num, HN, then_below hT X.le⟩
          case measure => simp [intOf]; omega
      · have E : ans = true := by
          rw [HS.out, eqL_iff]
          have h1 := HT.out
          rwa [List.take_of_length_le (by omega), List.take_of_length_le (by have := HL.out; omega)] at h1
        subst E
        go_wp2
        go_ret
        exact ⟨rfl, hT⟩
  · have E : ans = false := by rw [HS.out]; exact eqL_not fun he => hl (by rw [he])
    subst E
    go_enter Tryd.func17, Tryd.ntmps17
    go_wp2
    go_ret
    exact ⟨rfl, Below.refl _ _⟩

theorem may123 : mayD 1 2 3 := by unfold mayD okD; omega
theorem may221 : mayD 2 2 1 := by unfold mayD okD; omega
theorem may222 : mayD 2 2 2 := by unfold mayD okD; omega
theorem may321 : mayD 3 2 1 := by unfold mayD okD; omega
theorem no000 : ¬ mayD 0 0 0 := by unfold mayD okD; omega
theorem len123 : (turnsT (1, 2, 3, false, false, false, true)).length = 6 := by decide
theorem at123 : (turnsT (1, 2, 3, false, false, false, true)).getD 0 default = (1, 2, 3, false, false, false, true) := by decide
theorem len221 : (turnsT (2, 2, 1, true, false, false, true)).length = 6 := by decide
theorem at221 : (turnsT (2, 2, 1, true, false, false, true)).getD 0 default = (1, 2, 2, false, false, true, true) := by decide
theorem len222 : (turnsT (2, 2, 2, false, false, false, true)).length = 1 := by decide
theorem len123' : (turnsT (1, 2, 3, false, false, false, false)).length = 1 := by decide
theorem fits321 : fitsT (3, 2, 1) (1, 2, 3, false, false, false, true) = true := by decide
theorem fits321' : fitsT (3, 2, 1) (1, 2, 3, false, false, false, false) = false := by decide

set_option maxRecDepth 100000 in
set_option maxHeartbeats 4000000 in
theorem talive_calls (w : World) (hO : OrdOk w) : Calls Tryd.prog 10 #[] w fun e W' => e = .returned (.bool true) ∧ Below w.heap.size w W' := by
  have hmx : Tryd.prog.follows .mixedOrders = true := by kernel_rfl
  have HO : Hid (OrdOk w) := hO
  clear hO
  have A1 := fun (w : World) (hO : OrdOk w) => all_yes (p := false) (q := false) (r := false) (t := true) w hO may123
  have A2 := fun (w : World) (hO : OrdOk w) => all_yes (p := true) (q := false) (r := false) (t := true) w hO may221
  have L1 : Hid ((turnsT (1, 2, 3, false, false, false, true)).length = 6 ∧ (turnsT (1, 2, 3, false, false, false, true)).getD 0 default = (1, 2, 3, false, false, false, true)) := ⟨len123, at123⟩
  have L2 : Hid ((turnsT (2, 2, 1, true, false, false, true)).length = 6 ∧ (turnsT (2, 2, 1, true, false, false, true)).getD 0 default = (1, 2, 2, false, false, true, true)) := ⟨len221, at221⟩
  generalize turnsT (1, 2, 3, false, false, false, true) = l1 at A1 L1
  generalize turnsT (2, 2, 1, true, false, false, true) = l2 at A2 L2
  go_enter Tryd.func10, Tryd.ntmps10
  go_wp2_with fail
  refine (shaped_calls 1 2 3 true _).mono ?_
  rintro e w1 ⟨rfl, hT1⟩
  go_wp2_with fail
  refine (A1 _ (HO.out.later hT1)).mono ?_
  rintro e w2 ⟨v1, rfl, hL1, hB2⟩
  have hT2 := then_below hT1 hB2
  clear hT1 hB2 A1
  obtain ⟨ao1, cap1, rfl, _⟩ := hL1.view
  have HL1 : Hid (Wl w2 w1.heap.size (.slice ao1 l1.length cap1) l1) := hL1
  rw [L1.out.1] at HL1 ⊢
  clear hL1
  go_wp2_with fail
  refine (shaped_calls 2 2 1 true _).mono ?_
  rintro e w3 ⟨rfl, hT3⟩
  have hTa := then_below hT2 hT3
  have HL1b : Hid (Wl w3 w1.heap.size (.slice ao1 6 cap1) l1) := HL1.out.later hT3
  clear hT3 hT2 HL1
  have hB3 : Below w3.heap.size w3 (w3.alloc (.cells (cells7 2 2 1 true false false true) 29)) := (Below.refl _ w3).alloc (Nat.le_refl _) _
  go_wp2_with fail
  refine (A2 _ (HO.out.later (then_below hTa hB3))).mono ?_
  rintro e w4 ⟨v2, rfl, hL2, hB4⟩
  have hTb := then_below hB3 hB4
  have hTc := then_below hTa hTb
  clear A2 hB3 hB4
  obtain ⟨ao2, cap2, rfl, _⟩ := hL2.view
  obtain ⟨g1, x1, y1, z1, p1, q1, r1, t1, rfl, hu1, hat1⟩ := Wl.at (HL1b.out.later hTb) (show 0 < l1.length by have := L1.out.1; omega)
  obtain ⟨g2, x2, y2, z2, p2, q2, r2, t2, rfl, hu2, hat2⟩ := Wl.at hL2 (show 0 < l2.length by have := L2.out.1; omega)
  have hlen2 := L2.out.1
  rw [hlen2]
  rw [L1.out.2] at hu1
  rw [L2.out.2] at hu2
  simp only [Prod.mk.injEq] at hu1 hu2
  obtain ⟨rfl, rfl, rfl, rfl, rfl, rfl, rfl⟩ := hu1
  obtain ⟨rfl, rfl, rfl, rfl, rfl, rfl, rfl⟩ := hu2
  obtain ⟨c0, c1, c2, c3, c4, c5, c6⟩ := hat1.ext
  obtain ⟨d0, d1, d2, d3, d4, d5, d6⟩ := hat2.ext
  simp only [Nat.zero_mul, Nat.zero_add] at c0 c1 c2 c3 c4 c5 c6 d0 d1 d2 d3 d4 d5 d6
  clear hat1 hat2 hL2 HL1b hlen2 hTb hTa
  have E1 := eqW_self (1, 2, 3, false, false, false, true)
  have E2 := eqW_self (1, 2, 2, false, false, true, true)
  go_wp2_with fail
  refine wp_region_look hmx (by kernel_rfl) ?_
  repeat (go_big_quiet_step ((go_at_call 8; exact calls_ext (shaped_calls 1 2 3 true _))))
  refine wpQuiet_nil ?_
  intro X
  go_wp2
  go_ret
  exact ⟨rfl, then_below hTc X.le⟩

end Go.Proofs.YtanhhlekbdhfmaaDoor

/-
  time.Long, time.From, time.common: what each call answers; '==' between two spans.
-/
import Derived.Test.YtikjgfjahjlbaaaTimeCalls
namespace Go.Proofs.Ytikjgfjahjlbaaa
open Go.RowKit Go.Shelf

attribute [local go_sem] Oper.semAt_some ext_const

theorem Blk.set2 {W : World} {B : Nat} {t : TypeId} {x y : Value} (h : Blk W B t #[x, y]) (a b : Value) :
    Blk ((W.setCell ⟨B, 0, none⟩ a).setCell ⟨B, 1, none⟩ b) B t #[a, b] := (h.set 0 a).set 1 b
theorem below_set2 {n : Nat} {w W : World} {B : Nat} (h : Below n w W) (hn : n ≤ B) (a b : Value) :
    Below n w ((W.setCell ⟨B, 0, none⟩ a).setCell ⟨B, 1, none⟩ b) :=
  (h.setCell (p := ⟨B, 0, none⟩) hn a).setCell (p := ⟨B, 1, none⟩) hn b
theorem Blk.row2 {W : World} {B : Nat} {t : TypeId} {a b : Value} (h : Blk W B t #[a, b]) :
    W.cell? ⟨B, 0, none⟩ = some a ∧ W.cell? ⟨B, 1, none⟩ = some b ∧ W.frozen? ⟨B, 0, none⟩ = false ∧ W.frozen? ⟨B, 1, none⟩ = false :=
  ⟨h.cell 0, h.cell 1, h.frozen 0, h.frozen 1⟩

theorem tlong_no {f t : Int} (w : World) (h : ¬ maySp f t) : Calls Try.prog 28 #[S2 f t] w fun e W' => e = .returned (.tuple #[I 0, I 2]) ∧ Below w.heap.size w W' := by
  have hB : Below w.heap.size w (w.alloc (.cells (C2 f t) 34)) := (Below.refl _ w).alloc (Nat.le_refl _) _
  have H : Hid (∀ w, Calls Try.prog 42 #[S2 f t] w fun e W' => e = .returned (I 2) ∧ Below w.heap.size w W') := fun w => by rw [← errS_no h]; exact tcheck_calls f t w
  clear h
  go_enter Try.func28, Try.ntmps28
  go_wp2_with fail
  refine (H.out _).mono ?_
  rintro e w1 ⟨rfl, hB1⟩
  go_wp2
  go_ret2
  exact ⟨rfl, then_below hB hB1⟩

theorem tlong_yes {f t : Int} (w : World) (h : maySp f t) : Calls Try.prog 28 #[S2 f t] w fun e W' => e = .returned (.tuple #[I (t - f), I 0]) ∧ Below w.heap.size w W' := by
  have hB : Below w.heap.size w (w.alloc (.cells (C2 f t) 34)) := (Below.refl _ w).alloc (Nat.le_refl _) _
  have b0 := Blk.new w 34 (C2 f t)
  have H : Hid (∀ w, Calls Try.prog 42 #[S2 f t] w fun e W' => e = .returned (I 0) ∧ Below w.heap.size w W') := fun w => by rw [← errS_ok h]; exact tcheck_calls f t w
  have hw : Hid (wrap64 (t - f) = t - f) := wrap_in _ (by have := h.1; have := h.2.1; have := h.2.2; omega)
  clear h
  go_enter Try.func28, Try.ntmps28
  go_wp2_with fail
  refine (H.out _).mono ?_
  rintro e w1 ⟨rfl, hB1⟩
  obtain ⟨c0, c1, hz⟩ := b0.pair hB1
  go_wp2
  go_ret2
  rw [hw.out]
  exact ⟨rfl, then_below hB hB1⟩

theorem tfrom_no {m n : Int} (w : World) (h : ¬ (0 ≤ m ∧ m < 1099511627776 ∧ 1 ≤ n)) : Calls Try.prog 27 #[I m, I n] w fun e W' => e = .returned (.tuple #[S2 0 0, I 2]) ∧ Below w.heap.size w W' := by
  have hB : Below w.heap.size w (w.alloc (.cells (C2 0 0) 34)) := (Below.refl _ w).alloc (Nat.le_refl _) _
  by_cases h1 : m < 0
  · go_enter Try.func27, Try.ntmps27
    go_wp2
    exact bodyPost_ret (v := .tuple #[S2 0 0, I 2]) (by simp [results, Try.f27, go_sem]) rfl ⟨rfl, hB⟩
  · by_cases h2 : 1099511627776 ≤ m
    · have h1 : decide (m < 0) = false := decide_eq_false h1
      go_enter Try.func27, Try.ntmps27
      go_wp2
      exact bodyPost_ret (v := .tuple #[S2 0 0, I 2]) (by simp [results, Try.f27, go_sem]) rfl ⟨rfl, hB⟩
    · have h3 : n < 1 := by omega
      have h1 : decide (m < 0) = false := decide_eq_false h1
      have h2 : decide (1099511627776 ≤ m) = false := decide_eq_false h2
      clear h
      go_enter Try.func27, Try.ntmps27
      go_wp2
      exact bodyPost_ret (v := .tuple #[S2 0 0, I 2]) (by simp [results, Try.f27, go_sem]) rfl ⟨rfl, hB⟩

theorem tfrom_yes {m n : Int} (w : World) (h : 0 ≤ m ∧ m < 1099511627776 ∧ 1 ≤ n) : Calls Try.prog 27 #[I m, I n] w fun e W' => e = .returned (.tuple #[S2 m (plusT m n), I 0]) ∧ Below w.heap.size w W' := by
  have hB : Below w.heap.size w (w.alloc (.cells (C2 m (plusT m n)) 34)) := (Below.refl _ w).alloc (Nat.le_refl _) _
  have H : Hid (∀ w, Calls Try.prog 45 #[I m, I n] w fun e W' => e = .returned (I (plusT m n)) ∧ W' = w) := plus_calls m n
  generalize plusT m n = r at *
  have h1 : decide (m < 0) = false := decide_eq_false (by omega)
  have h2 : decide (1099511627776 ≤ m) = false := decide_eq_false (by omega)
  have h3 : decide (n < 1) = false := decide_eq_false (by omega)
  clear h
  go_enter Try.func27, Try.ntmps27
  go_wp2_with fail
  refine (H.out _).mono ?_
  rintro e w1 ⟨rfl, rfl⟩
  go_wp2
  exact bodyPost_ret (v := .tuple #[S2 m r, I 0]) (by simp [results, Try.f27, go_sem]) rfl ⟨rfl, hB⟩

theorem three_boxes (w : World) (u0 u1 u2 : Array Value) (t0 t1 t2 : TypeId) :
    ∃ W : World, ((w.alloc (.cells u0 t0)).alloc (.cells u1 t1)).alloc (.cells u2 t2) = W ∧ Below w.heap.size w W ∧ Blk W w.heap.size t0 u0 ∧ Blk W (w.heap.size + 1) t1 u1 ∧ Blk W (w.heap.size + 1 + 1) t2 u2 := by
  refine ⟨_, rfl, (((Below.refl _ w).alloc (Nat.le_refl _) _).alloc (by simp) _).alloc (by simp; omega) _, ?_, ?_, ?_⟩
  · exact ((Blk.new w t0 u0).alloc _).alloc _
  · have := (Blk.new (w.alloc (.cells u0 t0)) t1 u1).alloc (.cells u2 t2); simpa using this
  · have := Blk.new ((w.alloc (.cells u0 t0)).alloc (.cells u1 t1)) t2 u2; simpa using this

set_option maxHeartbeats 1000000 in
theorem common_calls (f t f' t' : Int) (w : World) : Calls Try.prog 56 #[S2 f t, S2 f' t'] w fun e W' => e = .returned (S2 (brX f' f t) (brX t' f t)) ∧ Below w.heap.size w W' := by
  have HA : Hid (∀ w, Calls Try.prog 55 #[I f', I f, I t] w fun e W' => e = .returned (I (brX f' f t)) ∧ W' = w) := bring_calls _ _ _
  have HB : Hid (∀ w, Calls Try.prog 55 #[I t', I f, I t] w fun e W' => e = .returned (I (brX t' f t)) ∧ W' = w) := bring_calls _ _ _
  generalize brX f' f t = x at *
  generalize brX t' f t = y at *
  have hmx : Try.prog.follows .mixedOrders = true := by kernel_rfl
  go_enter Try.func56, Try.ntmps56
  go_wp2
  obtain ⟨W, hW, hB0, b0, b1, b2⟩ := three_boxes w (C2 f t) (C2 f' t') (C2 0 0) 34 34 34
  first | rw [hW] | skip
  have x0 := Ext.cell b0 0
  have x1 := Ext.cell b0 1
  have y0 := Ext.cell b1 0
  have y1 := Ext.cell b1 1
  simp at x0 x1 y0 y1
  refine wp_region_tail 15 hmx (by kernel_rfl) ?_
  simp only [List.take_succ_cons, List.take_zero, List.drop_succ_cons, List.drop_zero]
  iterate 7 (go_big_quiet_step ((go_at_call 55; exact calls_ext_same (HA.out _))))
  repeat (go_big_quiet_step ((go_at_call 55; exact calls_ext_same (HB.out _))))
  refine wpQuiet_nil ?_
  intro v
  have q2 := b2.later v.le
  obtain ⟨c0, c1, f0, f1⟩ := q2.row2
  gi_wp2
  have hBX := below_set2 (below_ext hB0 v) (show w.heap.size ≤ w.heap.size + 1 + 1 by omega) (I x) (I y)
  obtain ⟨j0, j1, _, _⟩ := (q2.set2 (I x) (I y)).row2
  go_wp2
  exact bodyPost_ret (v := S2 x y) (by simp [results, Try.f56, go_sem, j0, j1]) rfl ⟨rfl, hBX⟩

end Go.Proofs.Ytikjgfjahjlbaaa

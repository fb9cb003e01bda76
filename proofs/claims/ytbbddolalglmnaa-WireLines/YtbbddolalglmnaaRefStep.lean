/-
  tidehallref01.Round, On, Step: the document's own answer for steps, for every input.
-/
import Derived.Test.YtbbddolalglmnaaRefPos
import Derived.Test.YtbbddolalglmnaaPosLaws
namespace Go.Proofs.Ytbbddolalglmnaa
open Go.RowKit Go.Shelf

attribute [local go_sem] Oper.semAt_some ext_const eq_arr

theorem rround_calls {n d : Int} (w : World) (h1 : 1 ≤ d) (h2 : d ≤ 16) : Calls Try.prog 46 #[I n, I d] w fun e W' => e = .returned (I (n % d)) ∧ W' = w := by
  obtain ⟨t1, t2, _⟩ := tmod_bd n d h1
  have e1 := Int.emod_nonneg n (b := d) (by omega)
  have e2 := Int.emod_lt_of_pos n (b := d) (by omega)
  have e3 : n.tmod d = n % d ∨ n.tmod d + d = n % d := by
    have a := Int.tmod_add_mul_tdiv n d
    have b := Int.emod_add_mul_ediv n d
    have c : (n.tmod d) % d = n % d := by
      conv => rhs; rw [← a, Int.add_mul_emod_self_left]
    rcases Int.lt_or_le (n.tmod d) 0 with h | h
    · right
      rw [← c, ← Int.add_emod_right, Int.emod_eq_of_lt (by omega) (by omega)]
    · left
      rw [← c, Int.emod_eq_of_lt h (by omega)]
  by_cases hn : n.tmod d < 0
  · have E : Hid (n.tmod d + d = n % d) := by show _ = _; omega
    clear e3 e1 e2
    go_enter Try.func46, Try.ntmps46
    go_wp2
    go_ret
    rw [← E.out]
    exact ⟨rfl, rfl⟩
  · have E : Hid (n.tmod d = n % d) := by show _ = _; omega
    clear e3 e1 e2
    go_enter Try.func46, Try.ntmps46
    go_wp2
    go_ret
    rw [← E.out]
    exact ⟨rfl, rfl⟩

set_option maxRecDepth 100000 in
set_option maxHeartbeats 1000000 in
theorem ron_calls {d0 d1 d2 m by_ : Int} (w : World) (hm : mayD d0 d1 d2) (hn : 0 ≤ m ∧ m < d0 * d1 * d2) (k : Fin 3) :
    Calls Try.prog 32 #[A3 d0 d1 d2, I m, I (axI k), I by_] w fun x W' => x = .returned (I (onD d0 d1 d2 m k by_)) ∧ Below w.heap.size w W' := by
  have HN : Hid (0 ≤ m ∧ m < d0 * d1 * d2) := hn
  have hin := inD_of_node hm hn
  have hon := inD_on hm hn by_
  have hd := hm
  unfold inD at hin
  unfold mayD okD at hd
  clear hn
  rcases fin3 k with rfl | rfl | rfl
  · simp only [axI, onD]
    have HT : Hid ((cx d0 m + by_ % d0) % d0 = (cx d0 m + by_) % d0) := Int.add_emod_emod _ _ _
    have hr0 := Int.emod_nonneg by_ (b := d0) (by omega)
    have hr1 := Int.emod_lt_of_pos by_ (b := d0) (by omega)
    go_enter Try.func32, Try.ntmps32
    go_wp2_with fail
    refine (rwhere_calls _ hm HN.out).mono ?_
    rintro x w1 ⟨rfl, hB⟩
    go_wp2_with fail
    obtain ⟨W, hW⟩ : ∃ W, w1.alloc (.cells #[I (cx d0 m), I (cy d0 d1 m), I (cz d0 d1 m)] 25) = W := ⟨_, rfl⟩
    have q0 : Blk W w.heap.size 26 #[I d0, I d1, I d2] := hW ▸ ((Blk.new w 26 #[I d0, I d1, I d2]).later hB).alloc _
    have q1 : Blk W w1.heap.size 25 #[I (cx d0 m), I (cy d0 d1 m), I (cz d0 d1 m)] := hW ▸ Blk.new w1 _ _
    have hz : w.heap.size < w1.heap.size := by have := hB.size; simp at this; omega
    have hBW : Below w.heap.size w W := hW ▸ (((Below.refl _ w).alloc (Nat.le_refl _) _).trans (hB.mono (by simp))).alloc (by omega) _
    rw [hW]
    clear hW hB
    have hmx : Try.prog.follows .mixedOrders = true := by kernel_rfl
    have e0 := Ext.cell q0 0
    have e1 := Ext.cell q1 0
    simp at e0 e1
    refine wp_region_tail 15 hmx (by kernel_rfl) ?_
    simp only [List.take_succ_cons, List.take_zero, List.drop_succ_cons, List.drop_zero]
    repeat (go_big_quiet_step (exact calls_ext_same (rround_calls _ (by omega) (by omega))))
    refine wpQuiet_nil ?_
    intro x
    have r0 := q0.later x.le
    have r1 := q1.later x.le
    have c1 := r1.cell 0
    have f1 := r1.frozen 0
    simp at c1
    gi_wp2
    rw [HT.out]
    have r0' := r0.other (B' := w1.heap.size) 0 (.int .i64 ((cx d0 m + by_) % d0)) (by omega)
    have r1' := r1.set 0 (.int .i64 ((cx d0 m + by_) % d0))
    have hBX := (below_ext hBW x).setCell (p := ⟨w1.heap.size, 0, none⟩) (by simp; omega) (.int .i64 ((cx d0 m + by_) % d0))
    generalize x.wd.setCell ⟨w1.heap.size, 0, none⟩ (.int .i64 ((cx d0 m + by_) % d0)) = W5 at *
    clear e0 e1 c1 f1 r0 r1 q0 q1 hBW
    have c0 := r0'.cell 0
    have c1 := r0'.cell 1
    have c2 := r0'.cell 2
    have k0 := r1'.cell 0
    have k1 := r1'.cell 1
    have k2 := r1'.cell 2
    simp at c0 c1 c2 k0 k1 k2
    go_wp2_with fail
    refine (rnum_calls _ hm hon.1).mono ?_
    rintro e w6 ⟨rfl, hB6⟩
    go_wp2
    go_ret
    exact ⟨rfl, hBX.trans (hB6.mono hBX.size)⟩
  · simp only [axI, onD]
    have HT : Hid ((cy d0 d1 m + by_ % d1) % d1 = (cy d0 d1 m + by_) % d1) := Int.add_emod_emod _ _ _
    have hr0 := Int.emod_nonneg by_ (b := d1) (by omega)
    have hr1 := Int.emod_lt_of_pos by_ (b := d1) (by omega)
    go_enter Try.func32, Try.ntmps32
    go_wp2_with fail
    refine (rwhere_calls _ hm HN.out).mono ?_
    rintro x w1 ⟨rfl, hB⟩
    go_wp2_with fail
    obtain ⟨W, hW⟩ : ∃ W, w1.alloc (.cells #[I (cx d0 m), I (cy d0 d1 m), I (cz d0 d1 m)] 25) = W := ⟨_, rfl⟩
    have q0 : Blk W w.heap.size 26 #[I d0, I d1, I d2] := hW ▸ ((Blk.new w 26 #[I d0, I d1, I d2]).later hB).alloc _
    have q1 : Blk W w1.heap.size 25 #[I (cx d0 m), I (cy d0 d1 m), I (cz d0 d1 m)] := hW ▸ Blk.new w1 _ _
    have hz : w.heap.size < w1.heap.size := by have := hB.size; simp at this; omega
    have hBW : Below w.heap.size w W := hW ▸ (((Below.refl _ w).alloc (Nat.le_refl _) _).trans (hB.mono (by simp))).alloc (by omega) _
    rw [hW]
    clear hW hB
    have hmx : Try.prog.follows .mixedOrders = true := by kernel_rfl
    have e0 := Ext.cell q0 1
    have e1 := Ext.cell q1 1
    simp at e0 e1
    refine wp_region_tail 15 hmx (by kernel_rfl) ?_
    simp only [List.take_succ_cons, List.take_zero, List.drop_succ_cons, List.drop_zero]
    repeat (go_big_quiet_step (exact calls_ext_same (rround_calls _ (by omega) (by omega))))
    refine wpQuiet_nil ?_
    intro x
    have r0 := q0.later x.le
    have r1 := q1.later x.le
    have c1 := r1.cell 1
    have f1 := r1.frozen 1
    simp at c1
    gi_wp2
    rw [HT.out]
    have r0' := r0.other (B' := w1.heap.size) 1 (.int .i64 ((cy d0 d1 m + by_) % d1)) (by omega)
    have r1' := r1.set 1 (.int .i64 ((cy d0 d1 m + by_) % d1))
    have hBX := (below_ext hBW x).setCell (p := ⟨w1.heap.size, 1, none⟩) (by simp; omega) (.int .i64 ((cy d0 d1 m + by_) % d1))
    generalize x.wd.setCell ⟨w1.heap.size, 1, none⟩ (.int .i64 ((cy d0 d1 m + by_) % d1)) = W5 at *
    clear e0 e1 c1 f1 r0 r1 q0 q1 hBW
    have c0 := r0'.cell 0
    have c1 := r0'.cell 1
    have c2 := r0'.cell 2
    have k0 := r1'.cell 0
    have k1 := r1'.cell 1
    have k2 := r1'.cell 2
    simp at c0 c1 c2 k0 k1 k2
    go_wp2_with fail
    refine (rnum_calls _ hm hon.2.1).mono ?_
    rintro e w6 ⟨rfl, hB6⟩
    go_wp2
    go_ret
    exact ⟨rfl, hBX.trans (hB6.mono hBX.size)⟩
  · simp only [axI, onD]
    have HT : Hid ((cz d0 d1 m + by_ % d2) % d2 = (cz d0 d1 m + by_) % d2) := Int.add_emod_emod _ _ _
    have hr0 := Int.emod_nonneg by_ (b := d2) (by omega)
    have hr1 := Int.emod_lt_of_pos by_ (b := d2) (by omega)
    go_enter Try.func32, Try.ntmps32
    go_wp2_with fail
    refine (rwhere_calls _ hm HN.out).mono ?_
    rintro x w1 ⟨rfl, hB⟩
    go_wp2_with fail
    obtain ⟨W, hW⟩ : ∃ W, w1.alloc (.cells #[I (cx d0 m), I (cy d0 d1 m), I (cz d0 d1 m)] 25) = W := ⟨_, rfl⟩
    have q0 : Blk W w.heap.size 26 #[I d0, I d1, I d2] := hW ▸ ((Blk.new w 26 #[I d0, I d1, I d2]).later hB).alloc _
    have q1 : Blk W w1.heap.size 25 #[I (cx d0 m), I (cy d0 d1 m), I (cz d0 d1 m)] := hW ▸ Blk.new w1 _ _
    have hz : w.heap.size < w1.heap.size := by have := hB.size; simp at this; omega
    have hBW : Below w.heap.size w W := hW ▸ (((Below.refl _ w).alloc (Nat.le_refl _) _).trans (hB.mono (by simp))).alloc (by omega) _
    rw [hW]
    clear hW hB
    have hmx : Try.prog.follows .mixedOrders = true := by kernel_rfl
    have e0 := Ext.cell q0 2
    have e1 := Ext.cell q1 2
    simp at e0 e1
    refine wp_region_tail 15 hmx (by kernel_rfl) ?_
    simp only [List.take_succ_cons, List.take_zero, List.drop_succ_cons, List.drop_zero]
    repeat (go_big_quiet_step (exact calls_ext_same (rround_calls _ (by omega) (by omega))))
    refine wpQuiet_nil ?_
    intro x
    have r0 := q0.later x.le
    have r1 := q1.later x.le
    have c1 := r1.cell 2
    have f1 := r1.frozen 2
    simp at c1
    gi_wp2
    rw [HT.out]
    have r0' := r0.other (B' := w1.heap.size) 2 (.int .i64 ((cz d0 d1 m + by_) % d2)) (by omega)
    have r1' := r1.set 2 (.int .i64 ((cz d0 d1 m + by_) % d2))
    have hBX := (below_ext hBW x).setCell (p := ⟨w1.heap.size, 2, none⟩) (by simp; omega) (.int .i64 ((cz d0 d1 m + by_) % d2))
    generalize x.wd.setCell ⟨w1.heap.size, 2, none⟩ (.int .i64 ((cz d0 d1 m + by_) % d2)) = W5 at *
    clear e0 e1 c1 f1 r0 r1 q0 q1 hBW
    have c0 := r0'.cell 0
    have c1 := r0'.cell 1
    have c2 := r0'.cell 2
    have k0 := r1'.cell 0
    have k1 := r1'.cell 1
    have k2 := r1'.cell 2
    simp at c0 c1 c2 k0 k1 k2
    go_wp2_with fail
    refine (rnum_calls _ hm hon.2.2).mono ?_
    rintro e w6 ⟨rfl, hB6⟩
    go_wp2
    go_ret
    exact ⟨rfl, hBX.trans (hB6.mono hBX.size)⟩

theorem ron_ax {d0 d1 d2 m ax by_ : Int} {k : Fin 3} (w : World) (hm : mayD d0 d1 d2) (hn : 0 ≤ m ∧ m < d0 * d1 * d2) (hk : ax = axI k) :
    Calls Try.prog 32 #[A3 d0 d1 d2, I m, I ax, I by_] w fun x W' => x = .returned (I (onD d0 d1 d2 m k by_)) ∧ Below w.heap.size w W' := by
  subst hk; exact ron_calls w hm hn k

end Go.Proofs.Ytbbddolalglmnaa

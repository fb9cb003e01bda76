/-
  pos.At: the midplane at coordinates, for every input; nothing that lay before is turned.
-/
import Derived.Test.YtbbddolalglmnaaPosMany
namespace Go.Proofs.Ytbbddolalglmnaa
open Go.RowKit Go.Shelf

attribute [local go_sem] Oper.semAt_some ext_const

/-- The four blocks that the call lays first. -/
theorem at_start (w : World) (u0 u1 u2 u3 : Array Value) (t0 t1 t2 t3 : TypeId) :
    ∃ W : World, (((w.alloc (.cells u0 t0)).alloc (.cells u1 t1)).alloc (.cells u2 t2)).alloc (.cells u3 t3) = W ∧ W.heap.size = w.heap.size + 4 ∧ Below w.heap.size w W ∧
      Blk W w.heap.size t0 u0 ∧ Blk W (w.heap.size + 1) t1 u1 ∧ Blk W (w.heap.size + 1 + 1) t2 u2 ∧ Blk W (w.heap.size + 1 + 1 + 1) t3 u3 := by
  refine ⟨_, rfl, by simp, ((((Below.refl _ w).alloc (Nat.le_refl _) _).alloc (by simp) _).alloc (by simp; omega) _).alloc (by simp; omega) _, ?_, ?_, ?_, ?_⟩
  · exact (((Blk.new w t0 u0).alloc _).alloc _).alloc _
  · have := ((Blk.new (w.alloc (.cells u0 t0)) t1 u1).alloc (.cells u2 t2)).alloc (.cells u3 t3); simpa using this
  · have := (Blk.new ((w.alloc (.cells u0 t0)).alloc (.cells u1 t1)) t2 u2).alloc (.cells u3 t3); simpa using this
  · have := Blk.new (((w.alloc (.cells u0 t0)).alloc (.cells u1 t1)).alloc (.cells u2 t2)) t3 u3; simpa using this

set_option maxHeartbeats 400000 in
theorem at_bad {d0 d1 d2 : Int} (p0 p1 p2 : Int) (w : World) (hm : ¬ mayD d0 d1 d2) :
    Calls Try.prog 38 #[A3 d0 d1 d2, A3 p0 p1 p2] w fun e W' => e = .returned (.tuple #[I 0, I 8]) ∧ Below w.heap.size w W' := by
  go_enter Try.func38, Try.ntmps38
  go_wp2_with fail
  obtain ⟨W, hW, hs, hB0, b0, b1, b2, b3⟩ := at_start w #[I d0, I d1, I d2] #[I p0, I p1, I p2] #[I 0] #[I 0] 26 25 3 22
  rw [hW]
  clear hW
  refine (check_no _ hm).mono ?_
  rintro e w1 ⟨rfl, hB⟩
  have g2 := b2.later hB
  have g3 := b3.later hB
  have c2 := g2.cell 0
  have c3 := g3.cell 0
  have f2 := g2.frozen 0
  have f3 := g3.frozen 0
  simp at c2 c3
  go_wp2
  have k2 := ((g2.set 0 (.int .i64 0)).other (B' := w.heap.size + 1 + 1 + 1) 0 (.int .i64 8) (by omega)).cell 0
  have k3 := ((g3.other (B' := w.heap.size + 1 + 1) 0 (.int .i64 0) (by omega)).set 0 (.int .i64 8)).cell 0
  simp at k2 k3
  exact bodyPost_ret (v := .tuple #[I 0, I 8]) (by simp [results, Try.f38, go_sem, k2, k3]) rfl ⟨rfl, ((hB0.trans (hB.mono (by omega))).setCell (p := ⟨w.heap.size + 1 + 1, 0, none⟩) (by simp; omega) _).setCell (p := ⟨w.heap.size + 1 + 1 + 1, 0, none⟩) (by simp; omega) _⟩

set_option maxRecDepth 100000 in
set_option maxHeartbeats 2000000 in
theorem at_loop {d0 d1 d2 : Int} (p0 p1 p2 : Int) (w : World) (hm : mayD d0 d1 d2) :
    Calls Try.prog 38 #[A3 d0 d1 d2, A3 p0 p1 p2] w fun e W' => ((inD d0 d1 d2 p0 p1 p2 ∧ e = .returned (.tuple #[I (numD d0 d1 p0 p1 p2), I 0])) ∨ (¬ inD d0 d1 d2 p0 p1 p2 ∧ e = .returned (.tuple #[I 0, I 2]))) ∧ Below w.heap.size w W' := by
  refine (callsIn_wide (n := 3)).1 ?_
  refine callsIn_of_wp_marks Try.func38 rfl trivial ?_ rfl
  simp only [Try.ntmps38, List.size_toArray, List.length_cons, List.length_nil, Nat.reduceAdd, Nat.reduceSub, Array.replicate_succ, Array.replicate_zero, List.push_toArray, List.append_toArray, List.nil_append, List.cons_append]
  gi_wp2_with fail
  obtain ⟨W, hW, hs, hB0, b0, b1, b2, b3⟩ := at_start w #[I d0, I d1, I d2] #[I p0, I p1, I p2] #[I 0] #[I 0] 26 25 3 22
  rw [hW]
  clear hW
  refine ⟨trivial, ?_⟩
  refine (callsIn_wide.2 (check_yes _ hm)).mono ?_
  rintro e w1 ⟨rfl, hB⟩
  have hz : w.heap.size + 4 ≤ w1.heap.size := by have := hB.size; omega
  have g0 := b0.later hB
  have g1 := b1.later hB
  have g2 := b2.later hB
  have g3 := b3.later hB
  have hB1 : Below w.heap.size w w1 := hB0.trans (hB.mono (by omega))
  have hz0 : w.heap.size < w1.heap.size := by omega
  have hz1 : w.heap.size + 1 < w1.heap.size := by omega
  have hz2 : w.heap.size + 1 + 1 < w1.heap.size := by omega
  have hz3 : w.heap.size + 1 + 1 + 1 < w1.heap.size := by omega
  clear hB b0 b1 b2 b3 hB0 hs
  have c0 := g0.cell 0
  have c1 := g0.cell 1
  have c2 := g0.cell 2
  simp at c0 c1 c2
  gi_wp2_with (refine ⟨trivial, ?_⟩; gi_at_call 39; refine (callsIn_wide.2 (axes_calls _ _ _ _)).mono ?_; rintro e w' ⟨rfl, rfl⟩)
  obtain ⟨W, hW⟩ : ∃ W, (w1.alloc (.cells #[I 0] 3)).alloc (.cells #[I d0, I d1, I d2] 26) = W := ⟨_, rfl⟩
  have q0 : Blk W w.heap.size 26 #[I d0, I d1, I d2] := hW ▸ (g0.alloc _).alloc _
  have q1 : Blk W (w.heap.size + 1) 25 #[I p0, I p1, I p2] := hW ▸ (g1.alloc _).alloc _
  have q2 : Blk W (w.heap.size + 1 + 1) 3 #[I 0] := hW ▸ (g2.alloc _).alloc _
  have q3 : Blk W (w.heap.size + 1 + 1 + 1) 22 #[I 0] := hW ▸ (g3.alloc _).alloc _
  have q4 : Blk W w1.heap.size 3 #[I 0] := hW ▸ (Blk.new w1 3 #[I 0]).alloc _
  have q5 : Blk W (w1.heap.size + 1) 26 #[I d0, I d1, I d2] := by
    have := Blk.new (w1.alloc (.cells #[I 0] 3)) 26 #[I d0, I d1, I d2]
    rw [World.size_alloc] at this; exact hW ▸ this
  have hBW : Below w.heap.size w W := hW ▸ (hB1.alloc hB1.size _).alloc (by simp; omega) _
  have hsW : W.heap.size = w1.heap.size + 2 := by rw [← hW]; simp
  rw [hW]
  clear hW g0 g1 g2 g3 c0 c1 c2 hB1
  refine wpIn_axes (w1.heap.size + 1) d0 d1 d2 rfl q5 rfl
    (fun pre W => ((∀ k ∈ pre, inK d0 d1 d2 p0 p1 p2 k) ∧ Blk W w.heap.size 26 #[I d0, I d1, I d2] ∧ Blk W (w.heap.size + 1) 25 #[I p0, I p1, I p2] ∧ Blk W (w.heap.size + 1 + 1) 3 #[I 0] ∧ Blk W (w.heap.size + 1 + 1 + 1) 22 #[I 0] ∧ Blk W w1.heap.size 3 #[I (numL d0 d1 p0 p1 p2 pre)]) ∧ Below w.heap.size w W)
    (fun c pre W => (c = .ret ∧ (∃ k ∈ pre, ¬ inK d0 d1 d2 p0 p1 p2 k) ∧ Blk W (w.heap.size + 1 + 1) 3 #[I 0] ∧ Blk W (w.heap.size + 1 + 1 + 1) 22 #[I 2]) ∧ Below w.heap.size w W)
    (OwnFrom.and (Own.from (own_and (own_pure _) (own_and (blk_own _ _ _) (own_and (blk_own _ _ _) (own_and (blk_own _ _ _) (own_and (blk_own _ _ _) (blk_own _ _ _)))))) _) (ownFrom_below (Nat.le_refl _) (by omega)))
    (fun c => OwnFrom.and (Own.from (own_and (own_pure _) (own_and (own_pure _) (own_and (blk_own _ _ _) (blk_own _ _ _)))) _) (ownFrom_below (Nat.le_refl _) (by omega)))
    ⟨⟨by simp, q0, q1, q2, q3, q4⟩, hBW⟩
    (fun x => { tmps := #[A3 d0 d1 d2, A3 p0 p1 p2, .pointer (some ⟨w.heap.size, 0, none⟩), .pointer (some ⟨w.heap.size + 1, 0, none⟩), .pointer (some ⟨w.heap.size + 1 + 1, 0, none⟩), .pointer (some ⟨w.heap.size + 1 + 1 + 1, 0, none⟩), I 0, .pointer (some ⟨w1.heap.size, 0, none⟩), .int .i64 (axI x), .int .i64 (strd d0 d1 x), A3 d0 d1 d2, I 0, I 0, .bool false, undef, A3 d0 d1 d2, .func (.func 50) #[] #[.pointer (some ⟨w1.heap.size + 1, 0, none⟩)], .int .i64 (axI x), .int .i64 (strd d0 d1 x), undef, undef, undef, undef, undef, undef, undef, undef, undef, undef, undef, undef, undef, undef, undef, undef], defers := [] }) ?assign ?body ?done ?stop
  case assign =>
    intro l x W K hK
    gi_wp2
    exact hK
  case body =>
    clear q0 q1 q2 q3 q4 q5 hBW hsW
    rintro l pre x W ⟨⟨hp, q0, q1, q2, q3, q4⟩, hB⟩ hlen
    have hmx : Try.prog.follows .mixedOrders = true := by kernel_rfl
    have e0 := Ext.cell q0 0
    have e1 := Ext.cell q0 1
    have e2 := Ext.cell q0 2
    have e3 := Ext.cell q1 0
    have e4 := Ext.cell q1 1
    have e5 := Ext.cell q1 2
    simp at e0 e1 e2 e3 e4 e5
    by_cases hx : inK d0 d1 d2 p0 p1 p2 x
    · have HW : Hid (wrap64 (numL d0 d1 p0 p1 p2 pre + wrap64 (dimAt p0 p1 p2 x * strd d0 d1 x)) = numL d0 d1 p0 p1 p2 (pre ++ [x])) := numL_snoc hm pre x hlen hp hx
      have hb : belowB (dimAt p0 p1 p2 x) (dimAt d0 d1 d2 x) = true := by unfold inK at hx; simp [belowB, hx.1, hx.2]
      generalize hst : strd d0 d1 x = st at *
      have Hst := hst
      clear hst
      rcases fin3 x with rfl | rfl | rfl
      all_goals
        simp only [axI, dimAt] at hb ⊢
        gi_wp2
        refine wpIn_region_look (loose_round _ l) hmx (by kernel_rfl) ?_
        repeat (go_big_quiet_step (exact calls_ext_same (below_calls _ _ _)))
        refine wpQuiet_nil ?_
        intro x
        gi_wp2
        have r1 := q1.later x.le
        have r4 := q4.later x.le
        have e3 := Ext.cell r1 0
        have e4 := Ext.cell r1 1
        have e5 := Ext.cell r1 2
        have e6 := Ext.cell r4 0
        simp at e3 e4 e5 e6
        refine wpIn_region_tail 7 (loose_round _ l) hmx (by kernel_rfl) ?_
        simp only [List.take_succ_cons, List.take_zero, List.drop_succ_cons, List.drop_zero]
        repeat (go_big_quiet_step (fail))
        refine wpQuiet_nil ?_
        intro y
        have g3 := Ext.frozen r4 0 y
        have e6 := e6 y
        gi_wp2
        refine ⟨((keeps_below x.le).trans (keeps_below y.le)).trans (KeepsOthers.setCell _ _ _), trivial, ⟨fun k hk => ?_, ((q0.later x.le).later y.le).other 0 _ (by omega), ((q1.later x.le).later y.le).other 0 _ (by omega), ((q2.later x.le).later y.le).other 0 _ (by omega), ((q3.later x.le).later y.le).other 0 _ (by omega), ?_⟩, (below_ext (below_ext hB x) y).setCell (p := ⟨w1.heap.size, 0, none⟩) (by simp; omega) _⟩
        · rcases List.mem_append.1 hk with h | h
          · exact hp k h
          · simp at h; subst h; exact hx
        · rw [← HW.out]
          exact (r4.later y.le).set 0 _
    · have hb : belowB (dimAt p0 p1 p2 x) (dimAt d0 d1 d2 x) = false := by unfold inK at hx; simp [belowB]; omega
      generalize hst : strd d0 d1 x = st at *
      clear hst
      rcases fin3 x with rfl | rfl | rfl
      all_goals
        simp only [axI, dimAt] at hb ⊢
        gi_wp2
        refine wpIn_region_look (loose_round _ l) hmx (by kernel_rfl) ?_
        repeat (go_big_quiet_step (exact calls_ext_same (below_calls _ _ _)))
        refine wpQuiet_nil ?_
        intro x
        have r2 := q2.later x.le
        have r3 := q3.later x.le
        have c2 := r2.cell 0
        have c3 := r3.cell 0
        have f2 := r2.frozen 0
        have f3 := r3.frozen 0
        simp at c2 c3
        gi_wp2
        exact ⟨((keeps_below x.le).trans (KeepsOthers.setCell _ _ _)).trans (KeepsOthers.setCell _ _ _), ⟨rfl, ⟨_, List.mem_append.2 (.inr (List.mem_singleton.2 rfl)), hx⟩, (r2.set 0 _).other 0 _ (by omega), (r3.other 0 _ (by omega)).set 0 _⟩, ((below_ext hB x).setCell (p := ⟨w.heap.size + 1 + 1, 0, none⟩) (by simp; omega) _).setCell (p := ⟨w.heap.size + 1 + 1 + 1, 0, none⟩) (by simp; omega) _⟩
  case done =>
    clear q0 q1 q2 q3 q4 q5 hBW
    rintro D W hD ⟨⟨hp, q0, q1, q2, q3, q4⟩, hB⟩ hK
    have c2 := q2.cell 0
    have c3 := q3.cell 0
    have c4 := q4.cell 0
    have f2 := q2.frozen 0
    have f3 := q3.frozen 0
    simp at c2 c3 c4
    gi_wp2
    have hK' := ((KeepsOthers.setCell W ⟨w.heap.size + 1 + 1, 0, none⟩ (.int .i64 (numL d0 d1 p0 p1 p2 [0, 1, 2]))).trans (KeepsOthers.setCell _ ⟨w.heap.size + 1 + 1 + 1, 0, none⟩ (.int .i64 0))).same D _ hK rfl
    refine ⟨by simp, .inl ⟨_, _, rfl, run_takeDeferred hK', ?_⟩⟩
    have k2 := (((q2.set 0 (.int .i64 (numL d0 d1 p0 p1 p2 [0, 1, 2]))).other (B' := w.heap.size + 1 + 1 + 1) 0 (.int .i64 0) (by omega)).putObj (.deferred none) hK' rfl).cell 0
    have k3 := (((q3.other (B' := w.heap.size + 1 + 1) 0 (.int .i64 (numL d0 d1 p0 p1 p2 [0, 1, 2])) (by omega)).set 0 (.int .i64 0)).putObj (.deferred none) hK' rfl).cell 0
    simp at k2 k3
    refine ⟨.tuple #[I (numL d0 d1 p0 p1 p2 [0, 1, 2]), I 0], ?_, .inl ⟨inD_of hp, by rw [numL_all hm]⟩, below_put _ ((hB.setCell (p := ⟨w.heap.size + 1 + 1, 0, none⟩) (by simp; omega) _).setCell (p := ⟨w.heap.size + 1 + 1 + 1, 0, none⟩) (by simp; omega) _) (by omega) hK'⟩
    simp [results, Try.f38, go_sem, k2, k3]
  case stop =>
    clear q0 q1 q2 q3 q4 q5 hBW
    rintro D c pre W hD hpre ⟨⟨rfl, ⟨k, hk, hno⟩, q2, q3⟩, hB⟩ hK
    gi_wp2
    refine ⟨by simp, .inl ⟨_, _, rfl, run_takeDeferred hK, ?_⟩⟩
    have k2 := (q2.putObj (.deferred none) hK rfl).cell 0
    have k3 := (q3.putObj (.deferred none) hK rfl).cell 0
    simp at k2 k3
    refine ⟨.tuple #[I 0, I 2], ?_, .inr ⟨fun h => hno (inK_of h k), rfl⟩, below_put _ hB (by omega) hK⟩
    simp [results, Try.f38, go_sem, k2, k3]

theorem at_yes {d0 d1 d2 p0 p1 p2 : Int} (w : World) (hm : mayD d0 d1 d2) (hp : inD d0 d1 d2 p0 p1 p2) :
    Calls Try.prog 38 #[A3 d0 d1 d2, A3 p0 p1 p2] w fun e W' => e = .returned (.tuple #[I (numD d0 d1 p0 p1 p2), I 0]) ∧ Below w.heap.size w W' := by
  refine (at_loop p0 p1 p2 w hm).mono ?_
  rintro e W' ⟨⟨_, rfl⟩ | ⟨hn, _⟩, hB⟩
  · exact ⟨rfl, hB⟩
  · exact absurd hp hn

theorem at_no {d0 d1 d2 p0 p1 p2 : Int} (w : World) (hm : mayD d0 d1 d2) (hp : ¬ inD d0 d1 d2 p0 p1 p2) :
    Calls Try.prog 38 #[A3 d0 d1 d2, A3 p0 p1 p2] w fun e W' => e = .returned (.tuple #[I 0, I 2]) ∧ Below w.heap.size w W' := by
  refine (at_loop p0 p1 p2 w hm).mono ?_
  rintro e W' ⟨⟨hy, _⟩ | ⟨_, rfl⟩, hB⟩
  · exact absurd hy hp
  · exact ⟨rfl, hB⟩

end Go.Proofs.Ytbbddolalglmnaa

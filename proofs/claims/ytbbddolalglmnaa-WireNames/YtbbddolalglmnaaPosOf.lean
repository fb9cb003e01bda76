/-
  pos.Of: the coordinates of a midplane, for every input; nothing that lay before is turned.
-/
import Derived.Test.YtbbddolalglmnaaPosAt
namespace Go.Proofs.Ytbbddolalglmnaa
open Go.RowKit Go.Shelf

attribute [local go_sem] Oper.semAt_some ext_const

set_option maxHeartbeats 400000 in
theorem of_err {d0 d1 d2 : Int} (m e : Int) (w : World) (he : (e != 0) = true)
    (hc : ∀ w, Calls Try.prog 49 #[A3 d0 d1 d2, I m] w fun x W' => x = .returned (I e) ∧ Below w.heap.size w W') :
    Calls Try.prog 35 #[A3 d0 d1 d2, I m] w fun x W' => x = .returned (.tuple #[A3 0 0 0, I e]) ∧ Below w.heap.size w W' := by
  have HC := Hid.out hc
  have HH : Hid (∀ w, Calls Try.prog 49 #[A3 d0 d1 d2, I m] w fun x W' => x = .returned (I e) ∧ Below w.heap.size w W') := hc
  clear hc HC
  go_enter Try.func35, Try.ntmps35
  go_wp2_with fail
  obtain ⟨W, hW, hs, hB0, b0, b1, b2, b3⟩ := at_start w #[I d0, I d1, I d2] #[I m] #[I 0, I 0, I 0] #[I 0, I 0, I 0] 26 3 25 25
  rw [hW]
  clear hW
  refine (HH.out _).mono ?_
  rintro x w1 ⟨rfl, hB⟩
  have g2 := b2.later hB
  have g3 := b3.later hB
  have c0 := g3.cell 0
  have c1 := g3.cell 1
  have c2 := g3.cell 2
  have k0 := g2.cell 0
  have k1 := g2.cell 1
  have k2 := g2.cell 2
  have f0 := g2.frozen 0
  have f1 := g2.frozen 1
  have f2 := g2.frozen 2
  simp at c0 c1 c2 k0 k1 k2
  go_wp2
  have r2 := ((g2.set 0 (.int .i64 0)).set 1 (.int .i64 0)).set 2 (.int .i64 0)
  have r0 := r2.cell 0
  have r1 := r2.cell 1
  have r2 := r2.cell 2
  simp at r0 r1 r2
  refine bodyPost_ret (v := .tuple #[A3 0 0 0, I e]) (by simp [results, Try.f35, go_sem, r0, r1, r2]) rfl ⟨rfl, ?_⟩
  exact (((hB0.trans (hB.mono (by omega))).setCell (p := ⟨w.heap.size + 1 + 1, 0, none⟩) (by simp; omega) _).setCell (p := ⟨w.heap.size + 1 + 1, 1, none⟩) (by simp; omega) _).setCell (p := ⟨w.heap.size + 1 + 1, 2, none⟩) (by simp; omega) _

theorem of_bad {d0 d1 d2 : Int} (m : Int) (w : World) (hm : ¬ mayD d0 d1 d2) :
    Calls Try.prog 35 #[A3 d0 d1 d2, I m] w fun x W' => x = .returned (.tuple #[A3 0 0 0, I 8]) ∧ Below w.heap.size w W' :=
  of_err m 8 w (by decide) (fun w => node_bad m w hm)
theorem of_no {d0 d1 d2 m : Int} (w : World) (hm : mayD d0 d1 d2) (hn : ¬ (0 ≤ m ∧ m < d0 * d1 * d2)) :
    Calls Try.prog 35 #[A3 d0 d1 d2, I m] w fun x W' => x = .returned (.tuple #[A3 0 0 0, I 2]) ∧ Below w.heap.size w W' :=
  of_err m 2 w (by decide) (fun w => node_no m w hm (by simp [belowB]; omega))

set_option maxRecDepth 100000 in
set_option maxHeartbeats 2000000 in
theorem of_yes {d0 d1 d2 m : Int} (w : World) (hm : mayD d0 d1 d2) (hn : 0 ≤ m ∧ m < d0 * d1 * d2) :
    Calls Try.prog 35 #[A3 d0 d1 d2, I m] w fun x W' => x = .returned (.tuple #[A3 (cx d0 m) (cy d0 d1 m) (cz d0 d1 m), I 0]) ∧ Below w.heap.size w W' := by
  refine (callsIn_wide (n := 3)).1 ?_
  refine callsIn_of_wp_marks Try.func35 rfl trivial ?_ rfl
  simp only [Try.ntmps35, List.size_toArray, List.length_cons, List.length_nil, Nat.reduceAdd, Nat.reduceSub, Array.replicate_succ, Array.replicate_zero, List.push_toArray, List.append_toArray, List.nil_append, List.cons_append]
  have HN : Hid (0 ≤ m ∧ m < d0 * d1 * d2) := hn
  have hmb : 0 ≤ m ∧ m ≤ 4096 := by have := N_bd hm; omega
  clear hn
  gi_wp2_with fail
  obtain ⟨W, hW, hs, hB0, b0, b1, b2, b3⟩ := at_start w #[I d0, I d1, I d2] #[I m] #[I 0, I 0, I 0] #[I 0, I 0, I 0] 26 3 25 25
  rw [hW]
  clear hW
  refine ⟨trivial, ?_⟩
  refine (callsIn_wide.2 (node_yes m _ hm (by have := HN.out; simp [belowB, this.1, this.2]))).mono ?_
  rintro e w1 ⟨rfl, hB⟩
  have hz : w.heap.size + 4 ≤ w1.heap.size := by have := hB.size; omega
  have g0 := b0.later hB
  have g1 := b1.later hB
  have g2 := b2.later hB
  have g3 := b3.later hB
  have hB1 : Below w.heap.size w w1 := hB0.trans (hB.mono (by omega))
  clear hB b0 b1 b2 b3 hB0 hs
  have c0 := g0.cell 0
  have c1 := g0.cell 1
  have c2 := g0.cell 2
  simp at c0 c1 c2
  gi_wp2_with (refine ⟨trivial, ?_⟩; gi_at_call 39; refine (callsIn_wide.2 (axes_calls _ _ _ _)).mono ?_; rintro e w' ⟨rfl, rfl⟩)
  obtain ⟨W, hW⟩ : ∃ W, w1.alloc (.cells #[I d0, I d1, I d2] 26) = W := ⟨_, rfl⟩
  have q0 : Blk W w.heap.size 26 #[I d0, I d1, I d2] := hW ▸ g0.alloc _
  have q1 : Blk W (w.heap.size + 1) 3 #[I m] := hW ▸ g1.alloc _
  have q2 : Blk W (w.heap.size + 1 + 1) 25 #[I 0, I 0, I 0] := hW ▸ g2.alloc _
  have q3 : Blk W (w.heap.size + 1 + 1 + 1) 25 #[I 0, I 0, I 0] := hW ▸ g3.alloc _
  have q5 : Blk W w1.heap.size 26 #[I d0, I d1, I d2] := hW ▸ Blk.new w1 26 #[I d0, I d1, I d2]
  have hBW : Below w.heap.size w W := hW ▸ hB1.alloc hB1.size _
  have hsW : W.heap.size = w1.heap.size + 1 := by rw [← hW]; simp
  rw [hW]
  clear hW g0 g1 g2 g3 c0 c1 c2 hB1
  refine wpIn_axes w1.heap.size d0 d1 d2 rfl q5 rfl
    (fun pre W => (Blk W w.heap.size 26 #[I d0, I d1, I d2] ∧ Blk W (w.heap.size + 1) 3 #[I m] ∧ Blk W (w.heap.size + 1 + 1) 25 #[I 0, I 0, I 0] ∧ Blk W (w.heap.size + 1 + 1 + 1) 25 #[I (crdL d0 d1 d2 m pre 0), I (crdL d0 d1 d2 m pre 1), I (crdL d0 d1 d2 m pre 2)]) ∧ Below w.heap.size w W)
    (fun _ _ _ => False)
    (OwnFrom.and (Own.from (own_and (blk_own _ _ _) (own_and (blk_own _ _ _) (own_and (blk_own _ _ _) (blk_own _ _ _)))) _) (ownFrom_below (Nat.le_refl _) (by omega)))
    (fun _ _ _ _ _ hs _ _ => hs)
    ⟨⟨q0, q1, q2, q3⟩, hBW⟩
    (fun x => { tmps := #[A3 d0 d1 d2, I m, .pointer (some ⟨w.heap.size, 0, none⟩), .pointer (some ⟨w.heap.size + 1, 0, none⟩), .pointer (some ⟨w.heap.size + 1 + 1, 0, none⟩), .int .i64 0, .pointer (some ⟨w.heap.size + 1 + 1 + 1, 0, none⟩), I 0, .int .i64 (axI x), .int .i64 (strd d0 d1 x), A3 d0 d1 d2, I m, I 0, I 0, .bool false, undef, undef, A3 d0 d1 d2, .func (.func 50) #[] #[.pointer (some ⟨w1.heap.size, 0, none⟩)], .int .i64 (axI x), .int .i64 (strd d0 d1 x), undef, undef, undef, undef, undef, undef, undef, undef, undef, undef], defers := [] }) ?assign ?body ?done ?stop
  case assign =>
    intro l x W K hK
    gi_wp2
    exact hK
  case body =>
    clear q0 q1 q2 q3 q5 hBW hsW
    rintro l pre x W ⟨⟨q0, q1, q2, q3⟩, hB⟩ hlen
    have hmx : Try.prog.follows .mixedOrders = true := by kernel_rfl
    have e0 := Ext.cell q0 0
    have e1 := Ext.cell q0 1
    have e2 := Ext.cell q0 2
    have e3 := Ext.cell q1 0
    simp at e0 e1 e2 e3
    have hdx := dimAt_ok hm x
    have hsx := (strd_ok hm).2.2.2 x
    have HC : Hid ((m / strd d0 d1 x).tmod (dimAt d0 d1 d2 x) = crd d0 d1 d2 m x) := by
      show _ = _
      rw [Int.tmod_eq_emod_of_nonneg (Int.ediv_nonneg hmb.1 (by omega))]; rfl
    unfold okD at hdx
    generalize strd d0 d1 x = st at *
    obtain ⟨hst0, hst1⟩ := hsx
    obtain ⟨hd0, hd1⟩ := hdx
    obtain ⟨hm0, hm1⟩ := hmb
    rcases fin3 x with rfl | rfl | rfl
    all_goals
      simp only [axI, dimAt] at hd0 hd1 HC ⊢
      gi_wp2
      refine wpIn_region_tail 9 (loose_round _ l) hmx (by kernel_rfl) ?_
      simp only [List.take_succ_cons, List.take_zero, List.drop_succ_cons, List.drop_zero]
      repeat (go_big_quiet_step (fail))
      refine wpQuiet_nil ?_
      intro x
      have r3 := q3.later x.le
      have c0 := r3.cell 0
      have c1 := r3.cell 1
      have c2 := r3.cell 2
      have f0 := r3.frozen 0
      have f1 := r3.frozen 1
      have f2 := r3.frozen 2
      simp at c0 c1 c2
      gi_wp2
      rw [HC.out]
      refine ⟨(keeps_below x.le).trans (KeepsOthers.setCell _ _ _), trivial, ⟨(q0.later x.le).other _ _ (by omega), (q1.later x.le).other _ _ (by omega), (q2.later x.le).other _ _ (by omega), ?_⟩, (below_ext hB x).setCell (p := ⟨w.heap.size + 1 + 1 + 1, _, none⟩) (by simp; omega) _⟩
      rw [crdL_same]
      rw [crdL_other _ _ _ _ _ (by decide), crdL_other _ _ _ _ _ (by decide)]
      first
        | exact r3.set 0 _
        | exact r3.set 1 _
        | exact r3.set 2 _
  case done =>
    clear q0 q1 q2 q3 q5 hBW
    rintro D W hD ⟨⟨q0, q1, q2, q3⟩, hB⟩ hK
    have c0 := q3.cell 0
    have c1 := q3.cell 1
    have c2 := q3.cell 2
    have k0 := q2.cell 0
    have k1 := q2.cell 1
    have k2 := q2.cell 2
    have f0 := q2.frozen 0
    have f1 := q2.frozen 1
    have f2 := q2.frozen 2
    simp at c0 c1 c2 k0 k1 k2
    have hcr := crd_all hm HN.out
    have E0 : crdL d0 d1 d2 m [0, 1, 2] 0 = cx d0 m := by rw [← hcr.1]; simp [crdL]
    have E1 : crdL d0 d1 d2 m [0, 1, 2] 1 = cy d0 d1 m := by rw [← hcr.2.1]; simp [crdL]
    have E2 : crdL d0 d1 d2 m [0, 1, 2] 2 = cz d0 d1 m := by rw [← hcr.2.2]; simp [crdL]
    rw [E0] at c0
    rw [E1] at c1
    rw [E2] at c2
    clear q3 E0 E1 E2 hcr
    gi_wp2
    have hK' := (((KeepsOthers.setCell W ⟨w.heap.size + 1 + 1, 0, none⟩ (.int .i64 (cx d0 m))).trans (KeepsOthers.setCell _ ⟨w.heap.size + 1 + 1, 1, none⟩ (.int .i64 (cy d0 d1 m)))).trans (KeepsOthers.setCell _ ⟨w.heap.size + 1 + 1, 2, none⟩ (.int .i64 (cz d0 d1 m)))).same D _ hK rfl
    refine ⟨by simp, .inl ⟨_, _, rfl, run_takeDeferred hK', ?_⟩⟩
    have fin := ((((q2.set 0 (.int .i64 (cx d0 m))).set 1 (.int .i64 (cy d0 d1 m))).set 2 (.int .i64 (cz d0 d1 m))).putObj (.deferred none) hK' rfl)
    have j0 := fin.cell 0
    have j1 := fin.cell 1
    have j2 := fin.cell 2
    simp at j0 j1 j2
    refine ⟨.tuple #[A3 (cx d0 m) (cy d0 d1 m) (cz d0 d1 m), I 0], ?_, rfl, below_put _ (((hB.setCell (p := ⟨w.heap.size + 1 + 1, 0, none⟩) (by simp; omega) _).setCell (p := ⟨w.heap.size + 1 + 1, 1, none⟩) (by simp; omega) _).setCell (p := ⟨w.heap.size + 1 + 1, 2, none⟩) (by simp; omega) _) (by omega) hK'⟩
    simp [results, Try.f35, go_sem, j0, j1, j2]
  case stop =>
    rintro D c pre W _ _ h _
    exact h.elim

end Go.Proofs.Ytbbddolalglmnaa

/-
  pos.Of: the coordinates of a midplane, for every input; nothing that lay before is turned.
-/
import Derived.Test.YtldcagjnngkabaaGreatDoorPart29
import Derived.Test.YtldcagjnngkabaaGreatDoorPart19
namespace Go.Proofs.YtldcagjnngkabaaGreatDoor
open Go.RowKit Go.Shelf

attribute [local go_sem] Oper.semAt_some ext_const

set_option maxHeartbeats 400000 in
theorem of_err {d0 d1 d2 : Int} (m e : Int) (w : World) (he : (e != 0) = true)
    (hc : ∀ w, Calls Tryz.prog 211 #[A3 d0 d1 d2, I m] w fun x W' => x = .returned (I e) ∧ Below w.heap.size w W') :
    Calls Tryz.prog 205 #[A3 d0 d1 d2, I m] w fun x W' => x = .returned (.tuple #[A3 0 0 0, I e]) ∧ Below w.heap.size w W' := by
  have HC := Hid.out hc
  have HH : Hid (∀ w, Calls Tryz.prog 211 #[A3 d0 d1 d2, I m] w fun x W' => x = .returned (I e) ∧ Below w.heap.size w W') := hc
  clear hc HC
  go_enter Tryz.func205, Tryz.ntmps205
  go_wp2_with fail
  obtain ⟨W, hW, hs, hB0, b0, b1, b2, b3⟩ := at_start w #[I d0, I d1, I d2] #[I m] #[I 0, I 0, I 0] #[I 0, I 0, I 0] 23 3 22 22
  rw [hW]
  clear hW
  refine (HH.out _).mono ?_
  rintro x w1 ⟨rfl, hB⟩
  have g2 := b2.later hB
  have g3 := b3.later hB
  have c0 := g3.cell 0
  have c1 := g3.cell 1
  have c2 := g3.cell 2
  have k0 := g2.cell 0
  have k1 := g2.cell 1
  have k2 := g2.cell 2
  have f0 := g2.frozen 0
  have f1 := g2.frozen 1
  have f2 := g2.frozen 2
  simp at c0 c1 c2 k0 k1 k2
  go_wp2
  have r2 := ((g2.set 0 (.int .i64 0)).set 1 (.int .i64 0)).set 2 (.int .i64 0)
  have r0 := r2.cell 0
  have r1 := r2.cell 1
  have r2 := r2.cell 2
  simp at r0 r1 r2
  refine bodyPost_ret (v := .tuple #[A3 0 0 0, I e]) (by simp [results, Tryz.f205, go_sem, r0, r1, r2]) rfl ⟨rfl, ?_⟩
  exact (((hB0.trans (hB.mono (by omega))).setCell (p := ⟨w.heap.size + 1 + 1, 0, none⟩) (by simp; omega) _).setCell (p := ⟨w.heap.size + 1 + 1, 1, none⟩) (by simp; omega) _).setCell (p := ⟨w.heap.size + 1 + 1, 2, none⟩) (by simp; omega) _

theorem of_bad {d0 d1 d2 : Int} (m : Int) (w : World) (hm : ¬ mayD d0 d1 d2) :
    Calls Tryz.prog 205 #[A3 d0 d1 d2, I m] w fun x W' => x = .returned (.tuple #[A3 0 0 0, I 8]) ∧ Below w.heap.size w W' :=
  of_err m 8 w (by decide) (fun w => node_bad m w hm)
theorem of_no {d0 d1 d2 m : Int} (w : World) (hm : mayD d0 d1 d2) (hn : ¬ (0 ≤ m ∧ m < d0 * d1 * d2)) :
    Calls Tryz.prog 205 #[A3 d0 d1 d2, I m] w fun x W' => x = .returned (.tuple #[A3 0 0 0, I 2]) ∧ Below w.heap.size w W' :=
  of_err m 2 w (by decide) (fun w => node_no m w hm (by simp [belowB]; omega))

set_option maxRecDepth 100000 in
set_option maxHeartbeats 2000000 in
theorem of_yes {d0 d1 d2 m : Int} (w : World) (hm : mayD d0 d1 d2) (hn : 0 ≤ m ∧ m < d0 * d1 * d2) :
    Calls Tryz.prog 205 #[A3 d0 d1 d2, I m] w fun x W' => x = .returned (.tuple #[A3 (cx d0 m) (cy d0 d1 m) (cz d0 d1 m), I 0]) ∧ Below w.heap.size w W' := by
  refine (callsIn_wide (n := 3)).1 ?_
  refine callsIn_of_wp_marks Tryz.func205 rfl trivial ?_ rfl
  simp only [Tryz.ntmps205, List.size_toArray, List.length_cons, List.length_nil, Nat.reduceAdd, Nat.reduceSub, Array.replicate_succ, Array.replicate_zero, List.push_toArray, List.append_toArray, List.nil_append, List.cons_append]
  have HN : Hid (0 ≤ m ∧ m < d0 * d1 * d2) := hn
  have hmb : 0 ≤ m ∧ m ≤ 4096 := by have := N_bd hm; omega
  clear hn
  gi_wp2_with fail
  obtain ⟨W, hW, hs, hB0, b0, b1, b2, b3⟩ := at_start w #[I d0, I d1, I d2] #[I m] #[I 0, I 0, I 0] #[I 0, I 0, I 0] 23 3 22 22
  rw [hW]
  clear hW
  refine ⟨trivial, ?_⟩
  refine (callsIn_wide.2 (node_yes m _ hm (by have := HN.out; simp [belowB, this.1, this.2]))).mono ?_
  rintro e w1 ⟨rfl, hB⟩
  have hz : w.heap.size + 4 ≤ w1.heap.size := by have := hB.size; omega
  have g0 := b0.later hB
  have g1 := b1.later hB
  have g2 := b2.later hB
  have g3 := b3.later hB
  have hB1 : Below w.heap.size w w1 := hB0.trans (hB.mono (by omega))
  clear hB b0 b1 b2 b3 hB0 hs
  have c0 := g0.cell 0
  have c1 := g0.cell 1
  have c2 := g0.cell 2
  simp at c0 c1 c2
  gi_wp2_with (refine ⟨trivial, ?_⟩; gi_at_call 120; refine (callsIn_wide.2 (axes_calls _ _ _ _)).mono ?_; rintro e w' ⟨rfl, rfl⟩)
  obtain ⟨W, hW⟩ : ∃ W, w1.alloc (.cells #[I d0, I d1, I d2] 23) = W := ⟨_, rfl⟩
  have q0 : Blk W w.heap.size 23 #[I d0, I d1, I d2] := hW ▸ g0.alloc _
  have q1 : Blk W (w.heap.size + 1) 3 #[I m] := hW ▸ g1.alloc _
  have q2 : Blk W (w.heap.size + 1 + 1) 22 #[I 0, I 0, I 0] := hW ▸ g2.alloc _
  have q3 : Blk W (w.heap.size + 1 + 1 + 1) 22 #[I 0, I 0, I 0] := hW ▸ g3.alloc _
  have q5 : Blk W w1.heap.size 23 #[I d0, I d1, I d2] := hW ▸ Blk.new w1 23 #[I d0, I d1, I d2]
  have hBW : Below w.heap.size w W := hW ▸ hB1.alloc hB1.size _
  have hsW : W.heap.size = w1.heap.size + 1 := by rw [← hW]; simp
  rw [hW]
  clear hW g0 g1 g2 g3 c0 c1 c2 hB1
  refine wpIn_axes w1.heap.size d0 d1 d2 rfl q5 rfl
    (fun pre W => (Blk W w.heap.size 23 #[I d0, I d1, I d2] ∧ Blk W (w.heap.size + 1) 3 #[I m] ∧ Blk W (w.heap.size + 1 + 1) 22 #[I 0, I 0, I 0] ∧ Blk W (w.heap.size + 1 + 1 + 1) 22 #[I (crdL d0 d1 d2 m pre 0), I (crdL d0 d1 d2 m pre 1), I (crdL d0 d1 d2 m pre 2)]) ∧ Below w.heap.size w W)
    (fun _ _ _ => False)
    (OwnFrom.and (Own.from (own_and (blk_own _ _ _) (own_and (blk_own _ _ _) (own_and (blk_own _ _ _) (blk_own _ _ _)))) _) (ownFrom_below (Nat.le_refl _) (by omega)))
    (fun _ _ _ _ _ hs _ _ => hs)
    ⟨⟨q0, q1, q2, q3⟩, hBW⟩
    (fun x => { tmps := #[A3 d0 d1 d2, I m, .pointer (some ⟨w.heap.size, 0, none⟩), .pointer (some ⟨w.heap.size + 1, 0, none⟩), .pointer (some ⟨w.heap.size + 1 + 1, 0, none⟩), .int .i64 0, .pointer (some ⟨w.heap.size + 1 + 1 + 1, 0, none⟩), I 0, .int .i64 (axI x), .int .i64 (strd d0 d1 x), A3 d0 d1 d2, I m, I 0, I 0, .bool false, undef, undef, A3 d0 d1 d2, .func (.func 153) #[] #[.pointer (some ⟨w1.heap.size, 0, none⟩)], .int .i64 (axI x), .int .i64 (strd d0 d1 x), undef, undef, undef, undef, undef, undef, undef, undef, undef, undef], defers := [] }) ?assign ?body ?done ?stop
  case assign =>
    intro l x W K hK
    gi_wp2
    exact hK
  case body =>
    clear q0 q1 q2 q3 q5 hBW hsW
    rintro l pre x W ⟨⟨q0, q1, q2, q3⟩, hB⟩ hlen
    have hmx : Tryz.prog.follows .mixedOrders = true := by kernel_rfl
    have e0 := Ext.cell q0 0
    have e1 := Ext.cell q0 1
    have e2 := Ext.cell q0 2
    have e3 := Ext.cell q1 0
    simp at e0 e1 e2 e3
    have hdx := dimAt_ok hm x
    have hsx := (strd_ok hm).2.2.2 x
    have HC : Hid ((m / strd d0 d1 x).tmod (dimAt d0 d1 d2 x) = crd d0 d1 d2 m x) := by
      show _ = _
      rw [Int.tmod_eq_emod_of_nonneg (Int.ediv_nonneg hmb.1 (by omega))]; rfl
    unfold okD at hdx
    generalize strd d0 d1 x = st at *
    obtain ⟨hst0, hst1⟩ := hsx
    obtain ⟨hd0, hd1⟩ := hdx
    obtain ⟨hm0, hm1⟩ := hmb
    rcases fin3 x with rfl | rfl | rfl
    all_goals
      simp only [axI, dimAt] at hd0 hd1 HC ⊢
      gi_wp2
      refine wpIn_region_tail 9 (loose_round _ l) hmx (by kernel_rfl) ?_
      simp only [List.take_succ_cons, List.take_zero, List.drop_succ_cons, List.drop_zero]
      repeat (go_big_quiet_step (fail))
      refine wpQuiet_nil ?_
      intro x
      have r3 := q3.later x.le
      have c0 := r3.cell 0
      have c1 := r3.cell 1
      have c2 := r3.cell 2
      have f0 := r3.frozen 0
      have f1 := r3.frozen 1
      have f2 := r3.frozen 2
      simp at c0 c1 c2
      gi_wp2
      rw [HC.out]
      refine ⟨(keeps_below x.le).trans (KeepsOthers.setCell _ _ _), trivial, ⟨(q0.later x.le).other _ _ (by omega), (q1.later x.le).other _ _ (by omega), (q2.later x.le).other _ _ (by omega), ?_⟩, (below_ext hB x).setCell (p := ⟨w.heap.size + 1 + 1 + 1, _, none⟩) (by simp; omega) _⟩
      rw [crdL_same]
      rw [crdL_other _ _ _ _ _ (by decide), crdL_other _ _ _ _ _ (by decide)]
      first
        | exact r3.set 0 _
        | exact r3.set 1 _
        | exact r3.set 2 _
  case done =>
    clear q0 q1 q2 q3 q5 hBW
    rintro D W hD ⟨⟨q0, q1, q2, q3⟩, hB⟩ hK
    have c0 := q3.cell 0
    have c1 := q3.cell 1
    have c2 := q3.cell 2
    have k0 := q2.cell 0
    have k1 := q2.cell 1
    have k2 := q2.cell 2
    have f0 := q2.frozen 0
    have f1 := q2.frozen 1
    have f2 := q2.frozen 2
    simp at c0 c1 c2 k0 k1 k2
    have hcr := crd_all hm HN.out
    have E0 : crdL d0 d1 d2 m [0, 1, 2] 0 = cx d0 m := by rw [← hcr.1]; simp [crdL]
    have E1 : crdL d0 d1 d2 m [0, 1, 2] 1 = cy d0 d1 m := by rw [← hcr.2.1]; simp [crdL]
    have E2 : crdL d0 d1 d2 m [0, 1, 2] 2 = cz d0 d1 m := by rw [← hcr.2.2]; simp [crdL]
    rw [E0] at c0
    rw [E1] at c1
    rw [E2] at c2
    clear q3 E0 E1 E2 hcr
    gi_wp2
    have hK' := (((KeepsOthers.setCell W ⟨w.heap.size + 1 + 1, 0, none⟩ (.int .i64 (cx d0 m))).trans (KeepsOthers.setCell _ ⟨w.heap.size + 1 + 1, 1, none⟩ (.int .i64 (cy d0 d1 m)))).trans (KeepsOthers.setCell _ ⟨w.heap.size + 1 + 1, 2, none⟩ (.int .i64 (cz d0 d1 m)))).same D _ hK rfl
    refine ⟨by simp, .inl ⟨_, _, rfl, run_takeDeferred hK', ?_⟩⟩
    have fin := ((((q2.set 0 (.int .i64 (cx d0 m))).set 1 (.int .i64 (cy d0 d1 m))).set 2 (.int .i64 (cz d0 d1 m))).putObj (.deferred none) hK' rfl)
    have j0 := fin.cell 0
    have j1 := fin.cell 1
    have j2 := fin.cell 2
    simp at j0 j1 j2
    refine ⟨.tuple #[A3 (cx d0 m) (cy d0 d1 m) (cz d0 d1 m), I 0], ?_, rfl, below_put _ (((hB.setCell (p := ⟨w.heap.size + 1 + 1, 0, none⟩) (by simp; omega) _).setCell (p := ⟨w.heap.size + 1 + 1, 1, none⟩) (by simp; omega) _).setCell (p := ⟨w.heap.size + 1 + 1, 2, none⟩) (by simp; omega) _) (by omega) hK'⟩
    simp [results, Tryz.f205, go_sem, j0, j1, j2]
  case stop =>
    rintro D c pre W _ _ h _
    exact h.elim

end Go.Proofs.YtldcagjnngkabaaGreatDoor

/-
  box.Canon, box.Has, box.Meet, box.Within: what each call answers.
-/
namespace Go.Proofs.YtldcagjnngkabaaGreatDoor
open Go.RowKit Go.Shelf

attribute [local go_sem] Oper.semAt_some ext_const

abbrev C6 (b : Bx) : Array Value := #[I b.x, I b.y, I b.z, I b.a, I b.b, I b.c]

theorem four_start (w : World) (u0 u1 u2 u3 : Array Value) (t0 t1 t2 t3 : TypeId) :
    ∃ W : World, (((w.alloc (.cells u0 t0)).alloc (.cells u1 t1)).alloc (.cells u2 t2)).alloc (.cells u3 t3) = W ∧ W.heap.size = w.heap.size + 4 ∧ Below w.heap.size w W ∧ Blk W w.heap.size t0 u0 ∧ Blk W (w.heap.size + 1) t1 u1 ∧ Blk W (w.heap.size + 1 + 1) t2 u2 ∧ Blk W (w.heap.size + 1 + 1 + 1) t3 u3 := by
  obtain ⟨W, hW, hs, hB, b0, b1, b2⟩ := three_start w u0 u1 u2 t0 t1 t2
  refine ⟨_, rfl, by simp, ?_, ?_, ?_, ?_, ?_⟩
  · rw [hW]; exact then_alloc hB _
  · rw [hW]; exact b0.alloc _
  · rw [hW]; exact b1.alloc _
  · rw [hW]; exact b2.alloc _
  · have := Blk.new (((w.alloc (.cells u0 t0)).alloc (.cells u1 t1)).alloc (.cells u2 t2)) t3 u3; simpa using this

set_option maxHeartbeats 1000000 in
theorem bcanon_err {d0 d1 d2 : Int} {b : Bx} (w : World) (he : (errB d0 d1 d2 b != 0) = true) :
    Calls Tryz.prog 126 #[A3 d0 d1 d2, B6 b] w fun e W' => e = .returned (.tuple #[B6 ⟨0, 0, 0, 0, 0, 0⟩, I (errB d0 d1 d2 b)]) ∧ Below w.heap.size w W' := by
  go_enter Tryz.func126, Tryz.ntmps126
  go_wp2_with fail
  obtain ⟨W, hW, hs, hB0, b0, b1, b2, b3⟩ := four_start w #[I d0, I d1, I d2] (C6 b) #[I 0, I 0, I 0, I 0, I 0, I 0] (C6 b) 23 40 40 40
  rw [hW]
  clear hW
  refine (chk1 _ _ b3).mono ?_
  rintro e w1 ⟨rfl, hT⟩
  have q2 := b2.later hT
  obtain ⟨⟨c0, c1, c2, c3, c4, c5⟩, f0, f1, f2, f3, f4, f5⟩ := q2.row6
  go_wp2
  obtain ⟨⟨j0, j1, j2, j3, j4, j5⟩, _⟩ := (q2.set6 (I 0) (I 0) (I 0) (I 0) (I 0) (I 0)).row6
  have hBX := below_set6 (then_below hB0 hT) (show w.heap.size ≤ w.heap.size + 1 + 1 by omega) (I 0) (I 0) (I 0) (I 0) (I 0) (I 0)
  exact bodyPost_ret (v := .tuple #[B6 ⟨0, 0, 0, 0, 0, 0⟩, I (errB d0 d1 d2 b)]) (by simp [results, Tryz.f126, go_sem, j0, j1, j2, j3, j4, j5]) rfl ⟨rfl, hBX⟩

set_option maxRecDepth 100000 in
set_option maxHeartbeats 4000000 in
theorem bcanon_ok {d0 d1 d2 : Int} {b : Bx} (w : World) (hm : mayD d0 d1 d2) (hb : mayB d0 d1 d2 b) :
    Calls Tryz.prog 126 #[A3 d0 d1 d2, B6 b] w fun e W' => e = .returned (.tuple #[B6 (canonB d0 d1 d2 b), I 0]) ∧ Below w.heap.size w W' := by
  have H0 : Hid (errB d0 d1 d2 b = 0) := errB_ok hm hb
  have hmx : Tryz.prog.follows .mixedOrders = true := by kernel_rfl
  obtain ⟨X, hX⟩ : ∃ X, X = (canonB d0 d1 d2 b).x := ⟨_, rfl⟩
  obtain ⟨Y, hY⟩ : ∃ Y, Y = (canonB d0 d1 d2 b).y := ⟨_, rfl⟩
  obtain ⟨Z, hZ⟩ : ∃ Z, Z = (canonB d0 d1 d2 b).z := ⟨_, rfl⟩
  have hR : B6 (canonB d0 d1 d2 b) = .agg #[I X, I Y, I Z, I b.a, I b.b, I b.c] := by rw [hX, hY, hZ]; rfl
  rw [hR]
  have HX : Hid (X = if b.a = d0 then 0 else b.x) := hX
  have HY : Hid (Y = if b.b = d1 then 0 else b.y) := hY
  have HZ : Hid (Z = if b.c = d2 then 0 else b.z) := hZ
  clear hX hY hZ hR
  go_enter Tryz.func126, Tryz.ntmps126
  go_wp2_with fail
  obtain ⟨W, hW, hs, hB0, b0, b1, b2, b3⟩ := four_start w #[I d0, I d1, I d2] (C6 b) #[I 0, I 0, I 0, I 0, I 0, I 0] (C6 b) 23 40 40 40
  rw [hW]
  clear hW
  refine (chk1 _ _ b3).mono ?_
  rintro e w1 ⟨rfl, hT⟩
  rw [H0.out]
  have g0 := b0.later hT
  have g1 := b1.later hT
  have g2 := b2.later hT
  have hB := then_below hB0 hT
  clear b0 b1 b2 b3 hT hB0
  go_wp2_with fail
  go_loopw [16] (fun i wr => ((i = .int .i64 0 ∧ Blk wr (w.heap.size + 1) 40 (C6 b)) ∨ (i = .int .i64 1 ∧ Blk wr (w.heap.size + 1) 40 #[I X, I b.y, I b.z, I b.a, I b.b, I b.c]) ∨
    (i = .int .i64 2 ∧ Blk wr (w.heap.size + 1) 40 #[I X, I Y, I b.z, I b.a, I b.b, I b.c]) ∨ (i = .int .i64 3 ∧ Blk wr (w.heap.size + 1) 40 #[I X, I Y, I Z, I b.a, I b.b, I b.c])) ∧
    Blk wr w.heap.size 23 #[I d0, I d1, I d2] ∧ Blk wr (w.heap.size + 1 + 1) 40 #[I 0, I 0, I 0, I 0, I 0, I 0] ∧ Below w.heap.size w wr) (fun i _ => 3 - (RowKit.intOf i).toNat)
  case atStart => exact ⟨.inl ⟨rfl, g1⟩, g0, g2, hB⟩
  case round =>
    clear g0 g1 g2 hB
    obtain ⟨hi, g0, g2, hB⟩ := hrel
    have x0 := Ext.cell g0 0
    have x1 := Ext.cell g0 1
    have x2 := Ext.cell g0 2
    simp at x0 x1 x2
    rcases hi with ⟨rfl, g1⟩ | ⟨rfl, g1⟩ | ⟨rfl, g1⟩ | ⟨rfl, g1⟩
    · have y3 := Ext.cell g1 3
      simp at y3
      cases hq : b.a == d0
      · have E : X = b.x := by rw [HX.out, if_neg (by simpa using hq)]
        subst E
        go_wp2
        refine wp_region_look hmx (by kernel_rfl) ?_
        repeat (go_big_quiet_step (fail))
        refine wpQuiet_nil ?_
        intro v
        go_wp2
        go_roundw
        case rel => exact ⟨.inr (.inl ⟨rfl, g1.later v.le⟩), g0.later v.le, g2.later v.le, then_below hB v.le⟩
        case measure => simp [RowKit.intOf]
      · have E : X = 0 := by rw [HX.out, if_pos (by simpa using hq)]
        subst E
        go_wp2
        refine wp_region_look hmx (by kernel_rfl) ?_
        repeat (go_big_quiet_step (fail))
        refine wpQuiet_nil ?_
        intro v
        have q1 := g1.later v.le
        obtain ⟨⟨c0, c1, c2, c3, c4, c5⟩, f0, f1, f2, f3, f4, f5⟩ := q1.row6
        go_wp2
        go_roundw
        case rel => exact ⟨.inr (.inl ⟨rfl, q1.set 0 (I 0)⟩), (g0.later v.le).other _ _ (by omega), (g2.later v.le).other _ _ (by omega), (then_below hB v.le).setCell (p := ⟨w.heap.size + 1, 0, none⟩) (by simp) _⟩
        case measure => simp [RowKit.intOf]
    · have y3 := Ext.cell g1 4
      simp at y3
      cases hq : b.b == d1
      · have E : Y = b.y := by rw [HY.out, if_neg (by simpa using hq)]
        subst E
        go_wp2
        refine wp_region_look hmx (by kernel_rfl) ?_
        repeat (go_big_quiet_step (fail))
        refine wpQuiet_nil ?_
        intro v
        go_wp2
        go_roundw
        case rel => exact ⟨.inr (.inr (.inl ⟨rfl, g1.later v.le⟩)), g0.later v.le, g2.later v.le, then_below hB v.le⟩
        case measure => simp [RowKit.intOf]
      · have E : Y = 0 := by rw [HY.out, if_pos (by simpa using hq)]
        subst E
        go_wp2
        refine wp_region_look hmx (by kernel_rfl) ?_
        repeat (go_big_quiet_step (fail))
        refine wpQuiet_nil ?_
        intro v
        have q1 := g1.later v.le
        obtain ⟨⟨c0, c1, c2, c3, c4, c5⟩, f0, f1, f2, f3, f4, f5⟩ := q1.row6
        go_wp2
        go_roundw
        case rel => exact ⟨.inr (.inr (.inl ⟨rfl, q1.set 1 (I 0)⟩)), (g0.later v.le).other _ _ (by omega), (g2.later v.le).other _ _ (by omega), (then_below hB v.le).setCell (p := ⟨w.heap.size + 1, 1, none⟩) (by simp) _⟩
        case measure => simp [RowKit.intOf]
    · have y3 := Ext.cell g1 5
      simp at y3
      cases hq : b.c == d2
      · have E : Z = b.z := by rw [HZ.out, if_neg (by simpa using hq)]
        subst E
        go_wp2
        refine wp_region_look hmx (by kernel_rfl) ?_
        repeat (go_big_quiet_step (fail))
        refine wpQuiet_nil ?_
        intro v
        go_wp2
        go_roundw
        case rel => exact ⟨.inr (.inr (.inr ⟨rfl, g1.later v.le⟩)), g0.later v.le, g2.later v.le, then_below hB v.le⟩
        case measure => simp [RowKit.intOf]
      · have E : Z = 0 := by rw [HZ.out, if_pos (by simpa using hq)]
        subst E
        go_wp2
        refine wp_region_look hmx (by kernel_rfl) ?_
        repeat (go_big_quiet_step (fail))
        refine wpQuiet_nil ?_
        intro v
        have q1 := g1.later v.le
        obtain ⟨⟨c0, c1, c2, c3, c4, c5⟩, f0, f1, f2, f3, f4, f5⟩ := q1.row6
        go_wp2
        go_roundw
        case rel => exact ⟨.inr (.inr (.inr ⟨rfl, q1.set 2 (I 0)⟩)), (g0.later v.le).other _ _ (by omega), (g2.later v.le).other _ _ (by omega), (then_below hB v.le).setCell (p := ⟨w.heap.size + 1, 2, none⟩) (by simp) _⟩
        case measure => simp [RowKit.intOf]
    · obtain ⟨⟨c0, c1, c2, c3, c4, c5⟩, _⟩ := g1.row6
      obtain ⟨⟨k0, k1, k2, k3, k4, k5⟩, f0, f1, f2, f3, f4, f5⟩ := g2.row6
      clear x0 x1 x2
      go_wp2
      obtain ⟨⟨j0, j1, j2, j3, j4, j5⟩, _⟩ := (g2.set6 (I X) (I Y) (I Z) (I b.a) (I b.b) (I b.c)).row6
      have hBX := below_set6 hB (show w.heap.size ≤ w.heap.size + 1 + 1 by omega) (I X) (I Y) (I Z) (I b.a) (I b.b) (I b.c)
      exact bodyPost_ret (v := .tuple #[.agg #[I X, I Y, I Z, I b.a, I b.b, I b.c], I 0]) (by simp [results, Tryz.f126, go_sem, j0, j1, j2, j3, j4, j5]) rfl ⟨rfl, hBX⟩

theorem errB2_ok {d0 d1 d2 : Int} {a b : Bx} (hm : mayD d0 d1 d2) (ha : mayB d0 d1 d2 a) (hb : mayB d0 d1 d2 b) : errB2 d0 d1 d2 a b = 0 := by
  rw [errB2, if_pos ((okDB_iff _ _ _).2 hm), (mayBB_iff _ _ _ _).2 ha, (mayBB_iff _ _ _ _).2 hb]; rfl
theorem errB2_no {d0 d1 d2 : Int} {a b : Bx} (hm : mayD d0 d1 d2) (hb : ¬ (mayB d0 d1 d2 a ∧ mayB d0 d1 d2 b)) : errB2 d0 d1 d2 a b = 2 := by
  rw [errB2, if_pos ((okDB_iff _ _ _).2 hm), show (mayBB d0 d1 d2 a && mayBB d0 d1 d2 b) = false by rw [← Bool.not_eq_true, Bool.and_eq_true, mayBB_iff, mayBB_iff]; exact hb]; rfl
theorem errB2_bad {d0 d1 d2 : Int} {a b : Bx} (hm : ¬ mayD d0 d1 d2) : errB2 d0 d1 d2 a b = 8 := by
  rw [errB2, if_neg (by rw [okDB_iff]; exact hm)]

end Go.Proofs.YtldcagjnngkabaaGreatDoor

/-
  What the document's own answer for layer 2 (tidehallref02) gives: May, Check, Told, Canon, Many, both.
-/
namespace Go.Proofs.YtldcagjnngkabaaGreatDoor
open Go.RowKit Go.Shelf

attribute [local go_sem] Oper.semAt_some ext_const

theorem four_way (d s b : Int) : (s < 1 ∧ Hid (maySB d b s = false)) ∨ (decide (s < 1) = false ∧ d < s ∧ Hid (maySB d b s = false)) ∨ (decide (s < 1) = false ∧ decide (d < s) = false ∧ b < 0 ∧ Hid (maySB d b s = false)) ∨
    (decide (s < 1) = false ∧ decide (d < s) = false ∧ decide (b < 0) = false ∧ d ≤ b ∧ Hid (maySB d b s = false)) ∨
    (decide (s < 1) = false ∧ decide (d < s) = false ∧ decide (b < 0) = false ∧ decide (d ≤ b) = false ∧ Hid (maySB d b s = true)) := by
  have no : (s < 1 ∨ d < s ∨ b < 0 ∨ d ≤ b) → Hid (maySB d b s = false) := fun h => by
    show _ = _
    rw [← Bool.not_eq_true, maySB_iff]
    unfold mayS
    omega
  have yes : (¬ s < 1 ∧ ¬ d < s ∧ ¬ b < 0 ∧ ¬ d ≤ b) → Hid (maySB d b s = true) := fun h => (maySB_iff _ _ _).2 (by unfold mayS; omega)
  simp only [decide_eq_false_iff_not]
  by_cases h1 : s < 1
  · exact .inl ⟨h1, no (.inl h1)⟩
  · by_cases h2 : d < s
    · exact .inr (.inl ⟨h1, h2, no (.inr (.inl h2))⟩)
    · by_cases h3 : b < 0
      · exact .inr (.inr (.inl ⟨h1, h2, h3, no (.inr (.inr (.inl h3)))⟩))
      · by_cases h4 : d ≤ b
        · exact .inr (.inr (.inr (.inl ⟨h1, h2, h3, h4, no (.inr (.inr (.inr h4)))⟩)))
        · exact .inr (.inr (.inr (.inr ⟨h1, h2, h3, h4, yes ⟨h1, h2, h3, h4⟩⟩)))

set_option maxRecDepth 100000 in
set_option maxHeartbeats 8000000 in
theorem rmayb_calls (d0 d1 d2 : Int) (b : Bx) (w : World) :
    Calls Tryz.prog 114 #[A3 d0 d1 d2, B6 b] w fun e W' => e = .returned (.bool (mayBB d0 d1 d2 b)) ∧ Below w.heap.size w W' := by
  have hmx : Tryz.prog.follows .mixedOrders = true := by kernel_rfl
  go_enter Tryz.func114, Tryz.ntmps114
  go_wp2
  obtain ⟨W, hW, hB0, b0, b1⟩ := two_start w #[I d0, I d1, I d2] (C6 b) 23 40
  rw [hW]
  clear hW
  go_loopw [5] (fun i wr => (i = .int .i64 0 ∨ (i = .int .i64 1 ∧ Hid (maySB d0 b.x b.a = true)) ∨ (i = .int .i64 2 ∧ Hid (maySB d0 b.x b.a = true ∧ maySB d1 b.y b.b = true)) ∨ (i = .int .i64 3 ∧ Hid (mayBB d0 d1 d2 b = true))) ∧ Below W.heap.size W wr) (fun i _ => 3 - (RowKit.intOf i).toNat)
  case atStart => exact ⟨.inl rfl, Below.refl _ _⟩
  case round =>
    obtain ⟨hi, hT⟩ := hrel
    have q0 := b0.later hT
    have q1 := b1.later hT
    have e0 := Ext.cell q0 0
    have e1 := Ext.cell q0 1
    have e2 := Ext.cell q0 2
    have y0 := Ext.cell q1 0
    have y1 := Ext.cell q1 1
    have y2 := Ext.cell q1 2
    have y3 := Ext.cell q1 3
    have y4 := Ext.cell q1 4
    have y5 := Ext.cell q1 5
    simp at e0 e1 e2 y0 y1 y2 y3 y4 y5
    rcases hi with rfl | ⟨rfl, H⟩ | ⟨rfl, H⟩ | ⟨rfl, H⟩
    · rcases four_way d0 b.a b.x with ⟨a1, K⟩ | ⟨a1, a2, K⟩ | ⟨a1, a2, a3, K⟩ | ⟨a1, a2, a3, a4, K⟩ | ⟨a1, a2, a3, a4, K⟩
      all_goals
        go_wp2
        refine wp_region_look hmx (by kernel_rfl) ?_
        repeat (go_big_quiet_step (fail))
        refine wpQuiet_nil ?_
        intro v
        have hT := then_below hT v.le
        go_wp2
      · go_ret
        exact ⟨by rw [mayBB, K.out]; simp, then_below hB0 hT⟩
      · go_ret
        exact ⟨by rw [mayBB, K.out]; simp, then_below hB0 hT⟩
      · go_ret
        exact ⟨by rw [mayBB, K.out]; simp, then_below hB0 hT⟩
      · go_ret
        exact ⟨by rw [mayBB, K.out]; simp, then_below hB0 hT⟩
      · go_roundw
        case rel => exact ⟨.inr (.inl ⟨rfl, K.out⟩), hT⟩
        case measure => simp [RowKit.intOf]
    · rcases four_way d1 b.b b.y with ⟨a1, K⟩ | ⟨a1, a2, K⟩ | ⟨a1, a2, a3, K⟩ | ⟨a1, a2, a3, a4, K⟩ | ⟨a1, a2, a3, a4, K⟩
      all_goals
        go_wp2
        refine wp_region_look hmx (by kernel_rfl) ?_
        repeat (go_big_quiet_step (fail))
        refine wpQuiet_nil ?_
        intro v
        have hT := then_below hT v.le
        go_wp2
      · go_ret
        exact ⟨by rw [mayBB, K.out]; simp, then_below hB0 hT⟩
      · go_ret
        exact ⟨by rw [mayBB, K.out]; simp, then_below hB0 hT⟩
      · go_ret
        exact ⟨by rw [mayBB, K.out]; simp, then_below hB0 hT⟩
      · go_ret
        exact ⟨by rw [mayBB, K.out]; simp, then_below hB0 hT⟩
      · go_roundw
        case rel => exact ⟨.inr (.inr (.inl ⟨rfl, H.out, K.out⟩)), hT⟩
        case measure => simp [RowKit.intOf]
    · rcases four_way d2 b.c b.z with ⟨a1, K⟩ | ⟨a1, a2, K⟩ | ⟨a1, a2, a3, K⟩ | ⟨a1, a2, a3, a4, K⟩ | ⟨a1, a2, a3, a4, K⟩
      all_goals
        go_wp2
        refine wp_region_look hmx (by kernel_rfl) ?_
        repeat (go_big_quiet_step (fail))
        refine wpQuiet_nil ?_
        intro v
        have hT := then_below hT v.le
        go_wp2
      · go_ret
        exact ⟨by rw [mayBB, K.out]; simp, then_below hB0 hT⟩
      · go_ret
        exact ⟨by rw [mayBB, K.out]; simp, then_below hB0 hT⟩
      · go_ret
        exact ⟨by rw [mayBB, K.out]; simp, then_below hB0 hT⟩
      · go_ret
        exact ⟨by rw [mayBB, K.out]; simp, then_below hB0 hT⟩
      · go_roundw
        case rel => exact ⟨.inr (.inr (.inr ⟨rfl, by show _ = _; rw [mayBB, H.out.1, H.out.2, K.out]; rfl⟩)), hT⟩
        case measure => simp [RowKit.intOf]
    · go_wp2
      go_ret
      exact ⟨by simp [H.out], then_below hB0 hT⟩

theorem errB2_eq (d0 d1 d2 : Int) (a b : Bx) : (errB d0 d1 d2 a = 0 ∧ errB2 d0 d1 d2 a b = errB d0 d1 d2 b) ∨ ((errB d0 d1 d2 a != 0) = true ∧ errB2 d0 d1 d2 a b = errB d0 d1 d2 a) := by
  unfold errB errB2 codeOf
  cases okDB d0 d1 d2 <;> cases mayBB d0 d1 d2 a <;> cases mayBB d0 d1 d2 b <;> simp

end Go.Proofs.YtldcagjnngkabaaGreatDoor

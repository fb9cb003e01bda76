/-
  box.Canon, box.Has, box.Meet, box.Within: what each call answers.
-/
import Derived.Test.YthakcjpipcmogaaBoxCanon
import Derived.Test.YthakcjpipcmogaaPosOf
namespace Go.Proofs.Ythakcjpipcmogaa
open Go.RowKit Go.Shelf

attribute [local go_sem] Oper.semAt_some ext_const

abbrev C6 (b : Bx) : Array Value := #[I b.x, I b.y, I b.z, I b.a, I b.b, I b.c]

theorem four_start (w : World) (u0 u1 u2 u3 : Array Value) (t0 t1 t2 t3 : TypeId) :
    ∃ W : World, (((w.alloc (.cells u0 t0)).alloc (.cells u1 t1)).alloc (.cells u2 t2)).alloc (.cells u3 t3) = W ∧ W.heap.size = w.heap.size + 4 ∧ Below w.heap.size w W ∧ Blk W w.heap.size t0 u0 ∧ Blk W (w.heap.size + 1) t1 u1 ∧ Blk W (w.heap.size + 1 + 1) t2 u2 ∧ Blk W (w.heap.size + 1 + 1 + 1) t3 u3 := by
  obtain ⟨W, hW, hs, hB, b0, b1, b2⟩ := three_start w u0 u1 u2 t0 t1 t2
  refine ⟨_, rfl, by simp, ?_, ?_, ?_, ?_, ?_⟩
  · rw [hW]; exact then_alloc hB _
  · rw [hW]; exact b0.alloc _
  · rw [hW]; exact b1.alloc _
  · rw [hW]; exact b2.alloc _
  · have := Blk.new (((w.alloc (.cells u0 t0)).alloc (.cells u1 t1)).alloc (.cells u2 t2)) t3 u3; simpa using this

set_option maxHeartbeats 1000000 in
theorem bcanon_err {d0 d1 d2 : Int} {b : Bx} (w : World) (he : (errB d0 d1 d2 b != 0) = true) :
    Calls Try.prog 9 #[A3 d0 d1 d2, B6 b] w fun e W' => e = .returned (.tuple #[B6 ⟨0, 0, 0, 0, 0, 0⟩, I (errB d0 d1 d2 b)]) ∧ Below w.heap.size w W' := by
  go_enter Try.func9, Try.ntmps9
  go_wp2_with fail
  obtain ⟨W, hW, hs, hB0, b0, b1, b2, b3⟩ := four_start w #[I d0, I d1, I d2] (C6 b) #[I 0, I 0, I 0, I 0, I 0, I 0] (C6 b) 28 24 24 24
  rw [hW]
  clear hW
  refine (chk1 _ _ b3).mono ?_
  rintro e w1 ⟨rfl, hT⟩
  have q2 := b2.later hT
  obtain ⟨⟨c0, c1, c2, c3, c4, c5⟩, f0, f1, f2, f3, f4, f5⟩ := q2.row6
  go_wp2
  obtain ⟨⟨j0, j1, j2, j3, j4, j5⟩, _⟩ := (q2.set6 (I 0) (I 0) (I 0) (I 0) (I 0) (I 0)).row6
  have hBX := below_set6 (then_below hB0 hT) (show w.heap.size ≤ w.heap.size + 1 + 1 by omega) (I 0) (I 0) (I 0) (I 0) (I 0) (I 0)
  exact bodyPost_ret (v := .tuple #[B6 ⟨0, 0, 0, 0, 0, 0⟩, I (errB d0 d1 d2 b)]) (by simp [results, Try.f9, go_sem, j0, j1, j2, j3, j4, j5]) rfl ⟨rfl, hBX⟩

set_option maxRecDepth 100000 in
set_option maxHeartbeats 4000000 in
theorem bcanon_ok {d0 d1 d2 : Int} {b : Bx} (w : World) (hm : mayD d0 d1 d2) (hb : mayB d0 d1 d2 b) :
    Calls Try.prog 9 #[A3 d0 d1 d2, B6 b] w fun e W' => e = .returned (.tuple #[B6 (canonB d0 d1 d2 b), I 0]) ∧ Below w.heap.size w W' := by
  have H0 : Hid (errB d0 d1 d2 b = 0) := errB_ok hm hb
  have hmx : Try.prog.follows .mixedOrders = true := by kernel_rfl
  obtain ⟨X, hX⟩ : ∃ X, X = (canonB d0 d1 d2 b).x := ⟨_, rfl⟩
  obtain ⟨Y, hY⟩ : ∃ Y, Y = (canonB d0 d1 d2 b).y := ⟨_, rfl⟩
  obtain ⟨Z, hZ⟩ : ∃ Z, Z = (canonB d0 d1 d2 b).z := ⟨_, rfl⟩
  have hR : B6 (canonB d0 d1 d2 b) = .agg #[I X, I Y, I Z, I b.a, I b.b, I b.c] := by rw [hX, hY, hZ]; rfl
  rw [hR]
  have HX : Hid (X = if b.a = d0 then 0 else b.x) := hX
  have HY : Hid (Y = if b.b = d1 then 0 else b.y) := hY
  have HZ : Hid (Z = if b.c = d2 then 0 else b.z) := hZ
  clear hX hY hZ hR
  go_enter Try.func9, Try.ntmps9
  go_wp2_with fail
  obtain ⟨W, hW, hs, hB0, b0, b1, b2, b3⟩ := four_start w #[I d0, I d1, I d2] (C6 b) #[I 0, I 0, I 0, I 0, I 0, I 0] (C6 b) 28 24 24 24
  rw [hW]
  clear hW
  refine (chk1 _ _ b3).mono ?_
  rintro e w1 ⟨rfl, hT⟩
  rw [H0.out]
  have g0 := b0.later hT
  have g1 := b1.later hT
  have g2 := b2.later hT
  have hB := then_below hB0 hT
  clear b0 b1 b2 b3 hT hB0
  go_wp2_with fail
  go_loopw [16] (fun i wr => ((i = .int .i64 0 ∧ Blk wr (w.heap.size + 1) 24 (C6 b)) ∨ (i = .int .i64 1 ∧ Blk wr (w.heap.size + 1) 24 #[I X, I b.y, I b.z, I b.a, I b.b, I b.c]) ∨
    (i = .int .i64 2 ∧ Blk wr (w.heap.size + 1) 24 #[I X, I Y, I b.z, I b.a, I b.b, I b.c]) ∨ (i = .int .i64 3 ∧ Blk wr (w.heap.size + 1) 24 #[I X, I Y, I Z, I b.a, I b.b, I b.c])) ∧
    Blk wr w.heap.size 28 #[I d0, I d1, I d2] ∧ Blk wr (w.heap.size + 1 + 1) 24 #[I 0, I 0, I 0, I 0, I 0, I 0] ∧ Below w.heap.size w wr) (fun i _ => 3 - (intOf i).toNat)
  case atStart => exact ⟨.inl ⟨rfl, g1⟩, g0, g2, hB⟩
  case round =>
    clear g0 g1 g2 hB
    obtain ⟨hi, g0, g2, hB⟩ := hrel
    have x0 := Ext.cell g0 0
    have x1 := Ext.cell g0 1
    have x2 := Ext.cell g0 2
    simp at x0 x1 x2
    rcases hi with ⟨rfl, g1⟩ | ⟨rfl, g1⟩ | ⟨rfl, g1⟩ | ⟨rfl, g1⟩
    · have y3 := Ext.cell g1 3
      simp at y3
      cases hq : b.a == d0
      · have E : X = b.x := by rw [HX.out, if_neg (by simpa using hq)]
        subst E
        go_wp2
        refine wp_region_look hmx (by kernel_rfl) ?_
        repeat (go_big_quiet_step (fail))
        refine wpQuiet_nil ?_
        intro v
        go_wp2
        go_roundw
        case rel => exact ⟨.inr (.inl ⟨rfl, g1.later v.le⟩), g0.later v.le, g2.later v.le, then_below hB v.le⟩
        case measure => simp [intOf]
      · have E : X = 0 := by rw [HX.out, if_pos (by simpa using hq)]
        subst E
        go_wp2
        refine wp_region_look hmx (by kernel_rfl) ?_
        repeat (go_big_quiet_step (fail))
        refine wpQuiet_nil ?_
        intro v
        have q1 := g1.later v.le
        obtain ⟨⟨c0, c1, c2, c3, c4, c5⟩, f0, f1, f2, f3, f4, f5⟩ := q1.row6
        go_wp2
        go_roundw
        case rel => exact ⟨.inr (.inl ⟨rfl, q1.set 0 (I 0)⟩), (g0.later v.le).other _ _ (by omega), (g2.later v.le).other _ _ (by omega), (then_below hB v.le).setCell (p := ⟨w.heap.size + 1, 0, none⟩) (by simp) _⟩
        case measure => simp [intOf]
    · have y3 := Ext.cell g1 4
      simp at y3
      cases hq : b.b == d1
      · have E : Y = b.y := by rw [HY.out, if_neg (by simpa using hq)]
        subst E
        go_wp2
        refine wp_region_look hmx (by kernel_rfl) ?_
        repeat (go_big_quiet_step (fail))
        refine wpQuiet_nil ?_
        intro v
        go_wp2
        go_roundw
        case rel => exact ⟨.inr (.inr (.inl ⟨rfl, g1.later v.le⟩)), g0.later v.le, g2.later v.le, then_below hB v.le⟩
        case measure => simp [intOf]
      · have E : Y = 0 := by rw [HY.out, if_pos (by simpa using hq)]
        subst E
        go_wp2
        refine wp_region_look hmx (by kernel_rfl) ?_
        repeat (go_big_quiet_step (fail))
        refine wpQuiet_nil ?_
        intro v
        have q1 := g1.later v.le
        obtain ⟨⟨c0, c1, c2, c3, c4, c5⟩, f0, f1, f2, f3, f4, f5⟩ := q1.row6
        go_wp2
        go_roundw
        case rel => exact ⟨.inr (.inr (.inl ⟨rfl, q1.set 1 (I 0)⟩)), (g0.later v.le).other _ _ (by omega), (g2.later v.le).other _ _ (by omega), (then_below hB v.le).setCell (p := ⟨w.heap.size + 1, 1, none⟩) (by simp) _⟩
        case measure => simp [intOf]
    · have y3 := Ext.cell g1 5
      simp at y3
      cases hq : b.c == d2
      · have E : Z = b.z := by rw [HZ.out, if_neg (by simpa using hq)]
        subst E
        go_wp2
        refine wp_region_look hmx (by kernel_rfl) ?_
        repeat (go_big_quiet_step (fail))
        refine wpQuiet_nil ?_
        intro v
        go_wp2
        go_roundw
        case rel => exact ⟨.inr (.inr (.inr ⟨rfl, g1.later v.le⟩)), g0.later v.le, g2.later v.le, then_below hB v.le⟩
        case measure => simp [intOf]
      · have E : Z = 0 := by rw [HZ.out, if_pos (by simpa using hq)]
        subst E
        go_wp2
        refine wp_region_look hmx (by kernel_rfl) ?_
        repeat (go_big_quiet_step (fail))
        refine wpQuiet_nil ?_
        intro v
        have q1 := g1.later v.le
        obtain ⟨⟨c0, c1, c2, c3, c4, c5⟩, f0, f1, f2, f3, f4, f5⟩ := q1.row6
        go_wp2
        go_roundw
        case rel => exact ⟨.inr (.inr (.inr ⟨rfl, q1.set 2 (I 0)⟩)), (g0.later v.le).other _ _ (by omega), (g2.later v.le).other _ _ (by omega), (then_below hB v.le).setCell (p := ⟨w.heap.size + 1, 2, none⟩) (by simp) _⟩
        case measure => simp [intOf]
    · obtain ⟨⟨c0, c1, c2, c3, c4, c5⟩, _⟩ := g1.row6
      obtain ⟨⟨k0, k1, k2, k3, k4, k5⟩, f0, f1, f2, f3, f4, f5⟩ := g2.row6
      clear x0 x1 x2
      go_wp2
      obtain ⟨⟨j0, j1, j2, j3, j4, j5⟩, _⟩ := (g2.set6 (I X) (I Y) (I Z) (I b.a) (I b.b) (I b.c)).row6
      have hBX := below_set6 hB (show w.heap.size ≤ w.heap.size + 1 + 1 by omega) (I X) (I Y) (I Z) (I b.a) (I b.b) (I b.c)
      exact bodyPost_ret (v := .tuple #[.agg #[I X, I Y, I Z, I b.a, I b.b, I b.c], I 0]) (by simp [results, Try.f9, go_sem, j0, j1, j2, j3, j4, j5]) rfl ⟨rfl, hBX⟩

set_option maxHeartbeats 1000000 in
theorem bhas_err {d0 d1 d2 : Int} {b : Bx} (m : Int) (w : World) (he : (errB d0 d1 d2 b != 0) = true) :
    Calls Try.prog 19 #[A3 d0 d1 d2, B6 b, I m] w fun e W' => e = .returned (.tuple #[.bool false, I (errB d0 d1 d2 b)]) ∧ Below w.heap.size w W' := by
  go_enter Try.func19, Try.ntmps19
  go_wp2_with fail
  obtain ⟨W, hW, hs, hB0, b0, b1, b2⟩ := three_start w #[I d0, I d1, I d2] (C6 b) (C6 b) 28 24 24
  rw [hW]
  clear hW
  refine (chk1 _ _ b2).mono ?_
  rintro e w1 ⟨rfl, hB⟩
  go_wp2
  go_ret2
  exact ⟨rfl, then_below hB0 hB⟩

set_option maxHeartbeats 1000000 in
theorem bhas_no {d0 d1 d2 m : Int} {b : Bx} (w : World) (hm : mayD d0 d1 d2) (hb : mayB d0 d1 d2 b) (hn : ¬ (0 ≤ m ∧ m < d0 * d1 * d2)) :
    Calls Try.prog 19 #[A3 d0 d1 d2, B6 b, I m] w fun e W' => e = .returned (.tuple #[.bool false, I 2]) ∧ Below w.heap.size w W' := by
  have H0 : Hid (errB d0 d1 d2 b = 0) := errB_ok hm hb
  have HN : Hid (¬ (0 ≤ m ∧ m < d0 * d1 * d2)) := hn
  clear hn
  go_enter Try.func19, Try.ntmps19
  go_wp2_with fail
  obtain ⟨W, hW, hs, hB0, b0, b1, b2⟩ := three_start w #[I d0, I d1, I d2] (C6 b) (C6 b) 28 24 24
  rw [hW]
  clear hW
  refine (chk1 _ _ b2).mono ?_
  rintro e w1 ⟨rfl, hT⟩
  rw [H0.out]
  obtain ⟨c0, c1, c2, hz⟩ := b0.three hT
  go_wp2_with fail
  refine (of_no _ hm HN.out).mono ?_
  rintro e w2 ⟨rfl, hB2⟩
  have hT := then_below hT hB2
  clear c0 c1 c2 hz
  go_wp2
  go_ret2
  exact ⟨rfl, then_alloc (then_below hB0 hT) _⟩

set_option maxHeartbeats 1000000 in
theorem bhas_ok {d0 d1 d2 m : Int} {b : Bx} (w : World) (hm : mayD d0 d1 d2) (hb : mayB d0 d1 d2 b) (hn : 0 ≤ m ∧ m < d0 * d1 * d2) :
    Calls Try.prog 19 #[A3 d0 d1 d2, B6 b, I m] w fun e W' => e = .returned (.tuple #[.bool (hasB d0 d1 d2 b m), I 0]) ∧ Below w.heap.size w W' := by
  have H0 : Hid (errB d0 d1 d2 b = 0) := errB_ok hm hb
  have HN : Hid (0 ≤ m ∧ m < d0 * d1 * d2) := hn
  clear hn
  go_enter Try.func19, Try.ntmps19
  go_wp2_with fail
  obtain ⟨W, hW, hs, hB0, b0, b1, b2⟩ := three_start w #[I d0, I d1, I d2] (C6 b) (C6 b) 28 24 24
  rw [hW]
  clear hW
  refine (chk1 _ _ b2).mono ?_
  rintro e w1 ⟨rfl, hT⟩
  rw [H0.out]
  obtain ⟨c0, c1, c2, hz⟩ := b0.three hT
  go_wp2_with fail
  refine (of_yes _ hm HN.out).mono ?_
  rintro e w2 ⟨rfl, hB2⟩
  have hT := then_below hT hB2
  clear c0 c1 c2 hz
  go_wp2_with fail
  have q0 := (b0.later hT).alloc (.cells #[I (cx d0 m), I (cy d0 d1 m), I (cz d0 d1 m)] 22)
  have q1 := (b1.later hT).alloc (.cells #[I (cx d0 m), I (cy d0 d1 m), I (cz d0 d1 m)] 22)
  have q2 := Blk.new w2 22 #[I (cx d0 m), I (cy d0 d1 m), I (cz d0 d1 m)]
  have hT := then_alloc hT (.cells #[I (cx d0 m), I (cy d0 d1 m), I (cz d0 d1 m)] 22)
  refine (along_calls _ (.inr ⟨.inr (.inr rfl), _, _, _, rfl⟩) (ans_has q0 q1 q2 hm hb (inD_of_node hm HN.out))).mono ?_
  rintro e w3 ⟨rfl, hB3⟩
  go_wp2
  go_ret2
  exact ⟨rfl, then_below hB0 (then_below hT hB3)⟩

theorem errB2_ok {d0 d1 d2 : Int} {a b : Bx} (hm : mayD d0 d1 d2) (ha : mayB d0 d1 d2 a) (hb : mayB d0 d1 d2 b) : errB2 d0 d1 d2 a b = 0 := by
  rw [errB2, if_pos ((okDB_iff _ _ _).2 hm), (mayBB_iff _ _ _ _).2 ha, (mayBB_iff _ _ _ _).2 hb]; rfl
theorem errB2_no {d0 d1 d2 : Int} {a b : Bx} (hm : mayD d0 d1 d2) (hb : ¬ (mayB d0 d1 d2 a ∧ mayB d0 d1 d2 b)) : errB2 d0 d1 d2 a b = 2 := by
  rw [errB2, if_pos ((okDB_iff _ _ _).2 hm), show (mayBB d0 d1 d2 a && mayBB d0 d1 d2 b) = false by rw [← Bool.not_eq_true, Bool.and_eq_true, mayBB_iff, mayBB_iff]; exact hb]; rfl
theorem errB2_bad {d0 d1 d2 : Int} {a b : Bx} (hm : ¬ mayD d0 d1 d2) : errB2 d0 d1 d2 a b = 8 := by
  rw [errB2, if_neg (by rw [okDB_iff]; exact hm)]

set_option maxHeartbeats 1000000 in
theorem bmeet_err {d0 d1 d2 : Int} {a b : Bx} (w : World) (he : (errB2 d0 d1 d2 a b != 0) = true) :
    Calls Try.prog 11 #[A3 d0 d1 d2, B6 a, B6 b] w fun e W' => e = .returned (.tuple #[.bool false, I (errB2 d0 d1 d2 a b)]) ∧ Below w.heap.size w W' := by
  go_enter Try.func11, Try.ntmps11
  go_wp2_with fail
  obtain ⟨W, hW, hs, hB0, b0, b1, b2, b3⟩ := four_start w #[I d0, I d1, I d2] (C6 a) (C6 b) #[I a.x, I a.y, I a.z, I a.a, I a.b, I a.c, I b.x, I b.y, I b.z, I b.a, I b.b, I b.c] 28 24 24 24
  rw [hW]
  clear hW
  refine (chk2 _ _ b3).mono ?_
  rintro e w1 ⟨rfl, hB⟩
  go_wp2
  go_ret2
  exact ⟨rfl, then_below hB0 hB⟩
set_option maxHeartbeats 1000000 in
theorem bmeet_ok {d0 d1 d2 : Int} {a b : Bx} (w : World) (hm : mayD d0 d1 d2) (ha : mayB d0 d1 d2 a) (hb : mayB d0 d1 d2 b) :
    Calls Try.prog 11 #[A3 d0 d1 d2, B6 a, B6 b] w fun e W' => e = .returned (.tuple #[.bool (meetB d0 d1 d2 a b), I 0]) ∧ Below w.heap.size w W' := by
  have H0 : Hid (errB2 d0 d1 d2 a b = 0) := errB2_ok hm ha hb
  go_enter Try.func11, Try.ntmps11
  go_wp2_with fail
  obtain ⟨W, hW, hs, hB0, b0, b1, b2, b3⟩ := four_start w #[I d0, I d1, I d2] (C6 a) (C6 b) #[I a.x, I a.y, I a.z, I a.a, I a.b, I a.c, I b.x, I b.y, I b.z, I b.a, I b.b, I b.c] 28 24 24 24
  rw [hW]
  clear hW
  refine (chk2 _ _ b3).mono ?_
  rintro e w1 ⟨rfl, hT⟩
  rw [H0.out]
  go_wp2_with fail
  refine (along_calls _ (.inr ⟨.inl rfl, _, _, _, rfl⟩) (ans_meet (b0.later hT) (b1.later hT) (b2.later hT) hm ha hb)).mono ?_
  rintro e w2 ⟨rfl, hB2⟩
  go_wp2
  go_ret2
  exact ⟨rfl, then_below hB0 (then_below hT hB2)⟩

set_option maxHeartbeats 1000000 in
theorem bwithin_err {d0 d1 d2 : Int} {a b : Bx} (w : World) (he : (errB2 d0 d1 d2 a b != 0) = true) :
    Calls Try.prog 13 #[A3 d0 d1 d2, B6 a, B6 b] w fun e W' => e = .returned (.tuple #[.bool false, I (errB2 d0 d1 d2 a b)]) ∧ Below w.heap.size w W' := by
  go_enter Try.func13, Try.ntmps13
  go_wp2_with fail
  obtain ⟨W, hW, hs, hB0, b0, b1, b2, b3⟩ := four_start w #[I d0, I d1, I d2] (C6 a) (C6 b) #[I a.x, I a.y, I a.z, I a.a, I a.b, I a.c, I b.x, I b.y, I b.z, I b.a, I b.b, I b.c] 28 24 24 24
  rw [hW]
  clear hW
  refine (chk2 _ _ b3).mono ?_
  rintro e w1 ⟨rfl, hB⟩
  go_wp2
  go_ret2
  exact ⟨rfl, then_below hB0 hB⟩
set_option maxHeartbeats 1000000 in
theorem bwithin_ok {d0 d1 d2 : Int} {a b : Bx} (w : World) (hm : mayD d0 d1 d2) (ha : mayB d0 d1 d2 a) (hb : mayB d0 d1 d2 b) :
    Calls Try.prog 13 #[A3 d0 d1 d2, B6 a, B6 b] w fun e W' => e = .returned (.tuple #[.bool (inB d0 d1 d2 a b), I 0]) ∧ Below w.heap.size w W' := by
  have H0 : Hid (errB2 d0 d1 d2 a b = 0) := errB2_ok hm ha hb
  go_enter Try.func13, Try.ntmps13
  go_wp2_with fail
  obtain ⟨W, hW, hs, hB0, b0, b1, b2, b3⟩ := four_start w #[I d0, I d1, I d2] (C6 a) (C6 b) #[I a.x, I a.y, I a.z, I a.a, I a.b, I a.c, I b.x, I b.y, I b.z, I b.a, I b.b, I b.c] 28 24 24 24
  rw [hW]
  clear hW
  refine (chk2 _ _ b3).mono ?_
  rintro e w1 ⟨rfl, hT⟩
  rw [H0.out]
  go_wp2_with fail
  refine (along_calls _ (.inr ⟨.inr (.inl rfl), _, _, _, rfl⟩) (ans_within (b0.later hT) (b1.later hT) (b2.later hT) hm ha hb)).mono ?_
  rintro e w2 ⟨rfl, hB2⟩
  go_wp2
  go_ret2
  exact ⟨rfl, then_below hB0 (then_below hT hB2)⟩

end Go.Proofs.Ythakcjpipcmogaa

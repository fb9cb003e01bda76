/-
  box.Canon, box.Has, box.Meet, box.Within: what each call answers.
-/
import Derived.Test.YtldcagjnngkabaaGreatDoorPart19
import Derived.Test.YtldcagjnngkabaaGreatDoorPart13
import Derived.Test.YtldcagjnngkabaaGreatDoorPart9
namespace Go.Proofs.YtldcagjnngkabaaGreatDoor
open Go.RowKit Go.Shelf

attribute [local go_sem] Oper.semAt_some ext_const

abbrev C6 (b : Bx) : Array Value := #[I b.x, I b.y, I b.z, I b.a, I b.b, I b.c]

theorem four_start (w : World) (u0 u1 u2 u3 : Array Value) (t0 t1 t2 t3 : TypeId) :
    ∃ W : World, (((w.alloc (.cells u0 t0)).alloc (.cells u1 t1)).alloc (.cells u2 t2)).alloc (.cells u3 t3) = W ∧ W.heap.size = w.heap.size + 4 ∧ Below w.heap.size w W ∧ Blk W w.heap.size t0 u0 ∧ Blk W (w.heap.size + 1) t1 u1 ∧ Blk W (w.heap.size + 1 + 1) t2 u2 ∧ Blk W (w.heap.size + 1 + 1 + 1) t3 u3 := by
  obtain ⟨W, hW, hs, hB, b0, b1, b2⟩ := three_start w u0 u1 u2 t0 t1 t2
  refine ⟨_, rfl, by simp, ?_, ?_, ?_, ?_, ?_⟩
  · rw [hW]; exact then_alloc hB _
  · rw [hW]; exact b0.alloc _
  · rw [hW]; exact b1.alloc _
  · rw [hW]; exact b2.alloc _
  · have := Blk.new (((w.alloc (.cells u0 t0)).alloc (.cells u1 t1)).alloc (.cells u2 t2)) t3 u3; simpa using this

set_option maxHeartbeats 1000000 in
theorem bcanon_err {d0 d1 d2 : Int} {b : Bx} (w : World) (he : (errB d0 d1 d2 b != 0) = true) :
    Calls Tryz.prog 126 #[A3 d0 d1 d2, B6 b] w fun e W' => e = .returned (.tuple #[B6 ⟨0, 0, 0, 0, 0, 0⟩, I (errB d0 d1 d2 b)]) ∧ Below w.heap.size w W' := by
  go_enter Tryz.func126, Tryz.ntmps126
  go_wp2_with fail
  obtain ⟨W, hW, hs, hB0, b0, b1, b2, b3⟩ := four_start w #[I d0, I d1, I d2] (C6 b) #[I 0, I 0, I 0, I 0, I 0, I 0] (C6 b) 23 40 40 40
  rw [hW]
  clear hW
  refine (chk1 _ _ b3).mono ?_
  rintro e w1 ⟨rfl, hT⟩
  have q2 := b2.later hT
  obtain ⟨⟨c0, c1, c2, c3, c4, c5⟩, f0, f1, f2, f3, f4, f5⟩ := q2.row6
  go_wp2
  obtain ⟨⟨j0, j1, j2, j3, j4, j5⟩, _⟩ := (q2.set6 (I 0) (I 0) (I 0) (I 0) (I 0) (I 0)).row6
  have hBX := below_set6 (then_below hB0 hT) (show w.heap.size ≤ w.heap.size + 1 + 1 by omega) (I 0) (I 0) (I 0) (I 0) (I 0) (I 0)
  exact bodyPost_ret (v := .tuple #[B6 ⟨0, 0, 0, 0, 0, 0⟩, I (errB d0 d1 d2 b)]) (by simp [results, Tryz.f126, go_sem, j0, j1, j2, j3, j4, j5]) rfl ⟨rfl, hBX⟩

set_option maxRecDepth 100000 in
set_option maxHeartbeats 4000000 in
theorem bcanon_ok {d0 d1 d2 : Int} {b : Bx} (w : World) (hm : mayD d0 d1 d2) (hb : mayB d0 d1 d2 b) :
    Calls Tryz.prog 126 #[A3 d0 d1 d2, B6 b] w fun e W' => e = .returned (.tuple #[B6 (canonB d0 d1 d2 b), I 0]) ∧ Below w.heap.size w W' := by
  have H0 : Hid (errB d0 d1 d2 b = 0) := errB_ok hm hb
  have hmx : Tryz.prog.follows .mixedOrders = true := by kernel_rfl
  obtain ⟨X, hX⟩ : ∃ X, X = (canonB d0 d1 d2 b).x := ⟨_, rfl⟩
  obtain ⟨Y, hY⟩ : ∃ Y, Y = (canonB d0 d1 d2 b).y := ⟨_, rfl⟩
  obtain ⟨Z, hZ⟩ : ∃ Z, Z = (canonB d0 d1 d2 b).z := ⟨_, rfl⟩
  have hR : B6 (canonB d0 d1 d2 b) = .agg #[I X, I Y, I Z, I b.a, I b.b, I b.c] := by rw [hX, hY, hZ]; rfl
  rw [hR]
  have HX : Hid (X = if b.a = d0 then 0 else b.x) := hX
  have HY : Hid (Y = if b.b = d1 then 0 else b.y) := hY
  have HZ : Hid (Z = if b.c = d2 then 0 else b.z) := hZ
  clear hX hY hZ hR
  go_enter Tryz.func126, Tryz.ntmps126
  go_wp2_with fail
  obtain ⟨W, hW, hs, hB0, b0, b1, b2, b3⟩ := four_start w #[I d0, I d1, I d2] (C6 b) #[I 0, I 0, I 0, I 0, I 0, I 0] (C6 b) 23 40 40 40
  rw [hW]
  clear hW
  refine (chk1 _ _ b3).mono ?_
  rintro e w1 ⟨rfl, hT⟩
  rw [H0.out]
  have g0 := b0.later hT
  have g1 := b1.later hT
  have g2 := b2.later hT
  have hB := then_below hB0 hT
  clear b0 b1 b2 b3 hT hB0
  go_wp2_with fail
  go_loopw [16] (fun i wr => ((i = .int .i64 0 ∧ Blk wr (w.heap.size + 1) 40 (C6 b)) ∨ (i = .int .i64 1 ∧ Blk wr (w.heap.size + 1) 40 #[I X, I b.y, I b.z, I b.a, I b.b, I b.c]) ∨
    (i = .int .i64 2 ∧ Blk wr (w.heap.size + 1) 40 #[I X, I Y, I b.z, I b.a, I b.b, I b.c]) ∨ (i = .int .i64 3 ∧ Blk wr (w.heap.size + 1) 40 #[I X, I Y, I Z, I b.a, I b.b, I b.c])) ∧
    Blk wr w.heap.size 23 #[I d0, I d1, I d2] ∧ Blk wr (w.heap.size + 1 + 1) 40 #[I 0, I 0, I 0, I 0, I 0, I 0] ∧ Below w.heap.size w wr) (fun i _ => 3 - (RowKit.intOf i).toNat)
  case atStart => exact ⟨.inl ⟨rfl, g1⟩, g0, g2, hB⟩
  case round =>
    clear g0 g1 g2 hB
    obtain ⟨hi, g0, g2, hB⟩ := hrel
    have x0 := Ext.cell g0 0
    have x1 := Ext.cell g0 1
    have x2 := Ext.cell g0 2
    simp at x0 x1 x2
    rcases hi with ⟨rfl, g1⟩ | ⟨rfl, g1⟩ | ⟨rfl, g1⟩ | ⟨rfl, g1⟩
    · have y3 := Ext.cell g1 3
      simp at y3
      cases hq : b.a == d0
      · have E : X = b.x := by rw [HX.out, if_neg (by simpa using hq)]
        subst E
        go_wp2
        refine wp_region_look hmx (by kernel_rfl) ?_
        repeat (go_big_quiet_step (fail))
        refine wpQuiet_nil ?_
        intro v
        go_wp2
        go_roundw
        case rel => exact ⟨.inr (.inl ⟨rfl, g1.later v.le⟩), g0.later v.le, g2.later v.le, then_below hB v.le⟩
        case measure => simp [RowKit.intOf]
      · have E : X = 0 := by rw [HX.out, if_pos (by simpa using hq)]
        subst E
        go_wp2
        refine wp_region_look hmx (by kernel_rfl) ?_
        repeat (go_big_quiet_step (fail))
        refine wpQuiet_nil ?_
        intro v
        have q1 := g1.later v.le
        obtain ⟨⟨c0, c1, c2, c3, c4, c5⟩, f0, f1, f2, f3, f4, f5⟩ := q1.row6
        go_wp2
        go_roundw
        case rel => exact ⟨.inr (.inl ⟨rfl, q1.set 0 (I 0)⟩), (g0.later v.le).other _ _ (by omega), (g2.later v.le).other _ _ (by omega), (then_below hB v.le).setCell (p := ⟨w.heap.size + 1, 0, none⟩) (by simp) _⟩
        case measure => simp [RowKit.intOf]
    · have y3 := Ext.cell g1 4
      simp at y3
      cases hq : b.b == d1
      · have E : Y = b.y := by rw [HY.out, if_neg (by simpa using hq)]
        subst E
        go_wp2
        refine wp_region_look hmx (by kernel_rfl) ?_
        repeat (go_big_quiet_step (fail))
        refine wpQuiet_nil ?_
        intro v
        go_wp2
        go_roundw
        case rel => exact ⟨.inr (.inr (.inl ⟨rfl, g1.later v.le⟩)), g0.later v.le, g2.later v.le, then_below hB v.le⟩
        case measure => simp [RowKit.intOf]
      · have E : Y = 0 := by rw [HY.out, if_pos (by simpa using hq)]
        subst E
        go_wp2
        refine wp_region_look hmx (by kernel_rfl) ?_
        repeat (go_big_quiet_step (fail))
        refine wpQuiet_nil ?_
        intro v
        have q1 := g1.later v.le
        obtain ⟨⟨c0, c1, c2, c3, c4, c5⟩, f0, f1, f2, f3, f4, f5⟩ := q1.row6
        go_wp2
        go_roundw
        case rel => exact ⟨.inr (.inr (.inl ⟨rfl, q1.set 1 (I 0)⟩)), (g0.later v.le).other _ _ (by omega), (g2.later v.le).other _ _ (by omega), (then_below hB v.le).setCell (p := ⟨w.heap.size + 1, 1, none⟩) (by simp) _⟩
        case measure => simp [RowKit.intOf]
    · have y3 := Ext.cell g1 5
      simp at y3
      cases hq : b.c == d2
      · have E : Z = b.z := by rw [HZ.out, if_neg (by simpa using hq)]
        subst E
        go_wp2
        refine wp_region_look hmx (by kernel_rfl) ?_
        repeat (go_big_quiet_step (fail))
        refine wpQuiet_nil ?_
        intro v
        go_wp2
        go_roundw
        case rel => exact ⟨.inr (.inr (.inr ⟨rfl, g1.later v.le⟩)), g0.later v.le, g2.later v.le, then_below hB v.le⟩
        case measure => simp [RowKit.intOf]
      · have E : Z = 0 := by rw [HZ.out, if_pos (by simpa using hq)]
        subst E
        go_wp2
        refine wp_region_look hmx (by kernel_rfl) ?_
        repeat (go_big_quiet_step (fail))
        refine wpQuiet_nil ?_
        intro v
        have q1 := g1.later v.le
        obtain ⟨⟨c0, c1, c2, c3, c4, c5⟩, f0, f1, f2, f3, f4, f5⟩ := q1.row6
        go_wp2
        go_roundw
        case rel => exact ⟨.inr (.inr (.inr ⟨rfl, q1.set 2 (I 0)⟩)), (g0.later v.le).other _ _ (by omega), (g2.later v.le).other _ _ (by omega), (then_below hB v.le).setCell (p := ⟨w.heap.size + 1, 2, none⟩) (by simp) _⟩
        case measure => simp [RowKit.intOf]
    · obtain ⟨⟨c0, c1, c2, c3, c4, c5⟩, _⟩ := g1.row6
      obtain ⟨⟨k0, k1, k2, k3, k4, k5⟩, f0, f1, f2, f3, f4, f5⟩ := g2.row6
      clear x0 x1 x2
      go_wp2
      obtain ⟨⟨j0, j1, j2, j3, j4, j5⟩, _⟩ := (g2.set6 (I X) (I Y) (I Z) (I b.a) (I b.b) (I b.c)).row6
      have hBX := below_set6 hB (show w.heap.size ≤ w.heap.size + 1 + 1 by omega) (I X) (I Y) (I Z) (I b.a) (I b.b) (I b.c)
      exact bodyPost_ret (v := .tuple #[.agg #[I X, I Y, I Z, I b.a, I b.b, I b.c], I 0]) (by simp [results, Tryz.f126, go_sem, j0, j1, j2, j3, j4, j5]) rfl ⟨rfl, hBX⟩

theorem errB2_ok {d0 d1 d2 : Int} {a b : Bx} (hm : mayD d0 d1 d2) (ha : mayB d0 d1 d2 a) (hb : mayB d0 d1 d2 b) : errB2 d0 d1 d2 a b = 0 := by
  rw [errB2, if_pos ((okDB_iff _ _ _).2 hm), (mayBB_iff _ _ _ _).2 ha, (mayBB_iff _ _ _ _).2 hb]; rfl
theorem errB2_no {d0 d1 d2 : Int} {a b : Bx} (hm : mayD d0 d1 d2) (hb : ¬ (mayB d0 d1 d2 a ∧ mayB d0 d1 d2 b)) : errB2 d0 d1 d2 a b = 2 := by
  rw [errB2, if_pos ((okDB_iff _ _ _).2 hm), show (mayBB d0 d1 d2 a && mayBB d0 d1 d2 b) = false by rw [← Bool.not_eq_true, Bool.and_eq_true, mayBB_iff, mayBB_iff]; exact hb]; rfl
theorem errB2_bad {d0 d1 d2 : Int} {a b : Bx} (hm : ¬ mayD d0 d1 d2) : errB2 d0 d1 d2 a b = 8 := by
  rw [errB2, if_neg (by rw [okDB_iff]; exact hm)]

end Go.Proofs.YtldcagjnngkabaaGreatDoor

/-
  What the document's own answer for layer 2 (tidehallref02) gives: May, Check, Told, Canon, Many, both.
-/
namespace Go.Proofs.YtldcagjnngkabaaGreatDoor
open Go.RowKit Go.Shelf

attribute [local go_sem] Oper.semAt_some ext_const

theorem four_way (d s b : Int) : (s < 1 ∧ Hid (maySB d b s = false)) ∨ (decide (s < 1) = false ∧ d < s ∧ Hid (maySB d b s = false)) ∨ (decide (s < 1) = false ∧ decide (d < s) = false ∧ b < 0 ∧ Hid (maySB d b s = false)) ∨
    (decide (s < 1) = false ∧ decide (d < s) = false ∧ decide (b < 0) = false ∧ d ≤ b ∧ Hid (maySB d b s = false)) ∨
    (decide (s < 1) = false ∧ decide (d < s) = false ∧ decide (b < 0) = false ∧ decide (d ≤ b) = false ∧ Hid (maySB d b s = true)) := by
  have no : (s < 1 ∨ d < s ∨ b < 0 ∨ d ≤ b) → Hid (maySB d b s = false) := fun h => by
    show _ = _
    rw [← Bool.not_eq_true, maySB_iff]
    unfold mayS
    omega
  have yes : (¬ s < 1 ∧ ¬ d < s ∧ ¬ b < 0 ∧ ¬ d ≤ b) → Hid (maySB d b s = true) := fun h => (maySB_iff _ _ _).2 (by unfold mayS; omega)
  simp only [decide_eq_false_iff_not]
  by_cases h1 : s < 1
  · exact .inl ⟨h1, no (.inl h1)⟩
  · by_cases h2 : d < s
    · exact .inr (.inl ⟨h1, h2, no (.inr (.inl h2))⟩)
    · by_cases h3 : b < 0
      · exact .inr (.inr (.inl ⟨h1, h2, h3, no (.inr (.inr (.inl h3)))⟩))
      · by_cases h4 : d ≤ b
        · exact .inr (.inr (.inr (.inl ⟨h1, h2, h3, h4, no (.inr (.inr (.inr h4)))⟩)))
        · exact .inr (.inr (.inr (.inr ⟨h1, h2, h3, h4, yes ⟨h1, h2, h3, h4⟩⟩)))

set_option maxRecDepth 100000 in
set_option maxHeartbeats 8000000 in
theorem rmayb_calls (d0 d1 d2 : Int) (b : Bx) (w : World) :
    Calls Tryz.prog 114 #[A3 d0 d1 d2, B6 b] w fun e W' => e = .returned (.bool (mayBB d0 d1 d2 b)) ∧ Below w.heap.size w W' := by
  have hmx : Tryz.prog.follows .mixedOrders = true := by kernel_rfl
  go_enter Tryz.func114, Tryz.ntmps114
  go_wp2
  obtain ⟨W, hW, hB0, b0, b1⟩ := two_start w #[I d0, I d1, I d2] (C6 b) 23 40
  rw [hW]
  clear hW
  go_loopw [5] (fun i wr => (i = .int .i64 0 ∨ (i = .int .i64 1 ∧ Hid (maySB d0 b.x b.a = true)) ∨ (i = .int .i64 2 ∧ Hid (maySB d0 b.x b.a = true ∧ maySB d1 b.y b.b = true)) ∨ (i = .int .i64 3 ∧ Hid (mayBB d0 d1 d2 b = true))) ∧ Below W.heap.size W wr) (fun i _ => 3 - (RowKit.intOf i).toNat)
  case atStart => exact ⟨.inl rfl, Below.refl _ _⟩
  case round =>
    obtain ⟨hi, hT⟩ := hrel
    have q0 := b0.later hT
    have q1 := b1.later hT
    have e0 := Ext.cell q0 0
    have e1 := Ext.cell q0 1
    have e2 := Ext.cell q0 2
    have y0 := Ext.cell q1 0
    have y1 := Ext.cell q1 1
    have y2 := Ext.cell q1 2
    have y3 := Ext.cell q1 3
    have y4 := Ext.cell q1 4
    have y5 := Ext.cell q1 5
    simp at e0 e1 e2 y0 y1 y2 y3 y4 y5
    rcases hi with rfl | ⟨rfl, H⟩ | ⟨rfl, H⟩ | ⟨rfl, H⟩
    · rcases four_way d0 b.a b.x with ⟨a1, K⟩ | ⟨a1, a2, K⟩ | ⟨a1, a2, a3, K⟩ | ⟨a1, a2, a3, a4, K⟩ | ⟨a1, a2, a3, a4, K⟩
      all_goals
        go_wp2
        refine wp_region_look hmx (by kernel_rfl) ?_
        repeat (go_big_quiet_step (fail))
        refine wpQuiet_nil ?_
        intro v
        have hT := then_below hT v.le
        go_wp2
      · go_ret
        exact ⟨by rw [mayBB, K.out]; simp, then_below hB0 hT⟩
      · go_ret
        exact ⟨by rw [mayBB, K.out]; simp, then_below hB0 hT⟩
      · go_ret
        exact ⟨by rw [mayBB, K.out]; simp, then_below hB0 hT⟩
      · go_ret
        exact ⟨by rw [mayBB, K.out]; simp, then_below hB0 hT⟩
      · go_roundw
        case rel => exact ⟨.inr (.inl ⟨rfl, K.out⟩), hT⟩
        case measure => simp [RowKit.intOf]
    · rcases four_way d1 b.b b.y with ⟨a1, K⟩ | ⟨a1, a2, K⟩ | ⟨a1, a2, a3, K⟩ | ⟨a1, a2, a3, a4, K⟩ | ⟨a1, a2, a3, a4, K⟩
      all_goals
        go_wp2
        refine wp_region_look hmx (by kernel_rfl) ?_
        repeat (go_big_quiet_step (fail))
        refine wpQuiet_nil ?_
        intro v
        have hT := then_below hT v.le
        go_wp2
      · go_ret
        exact ⟨by rw [mayBB, K.out]; simp, then_below hB0 hT⟩
      · go_ret
        exact ⟨by rw [mayBB, K.out]; simp, then_below hB0 hT⟩
      · go_ret
        exact ⟨by rw [mayBB, K.out]; simp, then_below hB0 hT⟩
      · go_ret
        exact ⟨by rw [mayBB, K.out]; simp, then_below hB0 hT⟩
      · go_roundw
        case rel => exact ⟨.inr (.inr (.inl ⟨rfl, H.out, K.out⟩)), hT⟩
        case measure => simp [RowKit.intOf]
    · rcases four_way d2 b.c b.z with ⟨a1, K⟩ | ⟨a1, a2, K⟩ | ⟨a1, a2, a3, K⟩ | ⟨a1, a2, a3, a4, K⟩ | ⟨a1, a2, a3, a4, K⟩
      all_goals
        go_wp2
        refine wp_region_look hmx (by kernel_rfl) ?_
        repeat (go_big_quiet_step (fail))
        refine wpQuiet_nil ?_
        intro v
        have hT := then_below hT v.le
        go_wp2
      · go_ret
        exact ⟨by rw [mayBB, K.out]; simp, then_below hB0 hT⟩
      · go_ret
        exact ⟨by rw [mayBB, K.out]; simp, then_below hB0 hT⟩
      · go_ret
        exact ⟨by rw [mayBB, K.out]; simp, then_below hB0 hT⟩
      · go_ret
        exact ⟨by rw [mayBB, K.out]; simp, then_below hB0 hT⟩
      · go_roundw
        case rel => exact ⟨.inr (.inr (.inr ⟨rfl, by show _ = _; rw [mayBB, H.out.1, H.out.2, K.out]; rfl⟩)), hT⟩
        case measure => simp [RowKit.intOf]
    · go_wp2
      go_ret
      exact ⟨by simp [H.out], then_below hB0 hT⟩

theorem errB2_eq (d0 d1 d2 : Int) (a b : Bx) : (errB d0 d1 d2 a = 0 ∧ errB2 d0 d1 d2 a b = errB d0 d1 d2 b) ∨ ((errB d0 d1 d2 a != 0) = true ∧ errB2 d0 d1 d2 a b = errB d0 d1 d2 a) := by
  unfold errB errB2 codeOf
  cases okDB d0 d1 d2 <;> cases mayBB d0 d1 d2 a <;> cases mayBB d0 d1 d2 b <;> simp

end Go.Proofs.YtldcagjnngkabaaGreatDoor

/-
  What the document's own answer for layer 2 (tidehallref02) gives: Told, Canon, Many.
-/
namespace Go.Proofs.YtldcagjnngkabaaGreatDoor
open Go.RowKit Go.Shelf

attribute [local go_sem] Oper.semAt_some ext_const

set_option maxRecDepth 100000 in
set_option maxHeartbeats 4000000 in
theorem rtold_calls (d0 d1 d2 : Int) (b : Bx) (w : World) :
    Calls Tryz.prog 115 #[A3 d0 d1 d2, B6 b] w fun e W' => e = .returned (B6 (canonB d0 d1 d2 b)) ∧ Below w.heap.size w W' := by
  have hmx : Tryz.prog.follows .mixedOrders = true := by kernel_rfl
  obtain ⟨X, hX⟩ : ∃ X, X = (canonB d0 d1 d2 b).x := ⟨_, rfl⟩
  obtain ⟨Y, hY⟩ : ∃ Y, Y = (canonB d0 d1 d2 b).y := ⟨_, rfl⟩
  obtain ⟨Z, hZ⟩ : ∃ Z, Z = (canonB d0 d1 d2 b).z := ⟨_, rfl⟩
  have hR : B6 (canonB d0 d1 d2 b) = .agg #[I X, I Y, I Z, I b.a, I b.b, I b.c] := by rw [hX, hY, hZ]; rfl
  rw [hR]
  have HX : Hid (X = if b.a = d0 then 0 else b.x) := hX
  have HY : Hid (Y = if b.b = d1 then 0 else b.y) := hY
  have HZ : Hid (Z = if b.c = d2 then 0 else b.z) := hZ
  clear hX hY hZ hR
  go_enter Tryz.func115, Tryz.ntmps115
  go_wp2_with fail
  obtain ⟨W, hW, hs, hB, g0, g1, g2⟩ := three_start w #[I d0, I d1, I d2] (C6 b) #[I 0, I 0, I 0, I 0, I 0, I 0] 23 40 40
  rw [hW]
  clear hW
  go_loopw [5] (fun i wr => ((i = .int .i64 0 ∧ Blk wr (w.heap.size + 1) 40 (C6 b)) ∨ (i = .int .i64 1 ∧ Blk wr (w.heap.size + 1) 40 #[I X, I b.y, I b.z, I b.a, I b.b, I b.c]) ∨
    (i = .int .i64 2 ∧ Blk wr (w.heap.size + 1) 40 #[I X, I Y, I b.z, I b.a, I b.b, I b.c]) ∨ (i = .int .i64 3 ∧ Blk wr (w.heap.size + 1) 40 #[I X, I Y, I Z, I b.a, I b.b, I b.c])) ∧
    Blk wr w.heap.size 23 #[I d0, I d1, I d2] ∧ Blk wr (w.heap.size + 1 + 1) 40 #[I 0, I 0, I 0, I 0, I 0, I 0] ∧ Below w.heap.size w wr) (fun i _ => 3 - (RowKit.intOf i).toNat)
  case atStart => exact ⟨.inl ⟨rfl, g1⟩, g0, g2, hB⟩
  case round =>
    clear g0 g1 g2 hB
    obtain ⟨hi, g0, g2, hB⟩ := hrel
    have x0 := Ext.cell g0 0
    have x1 := Ext.cell g0 1
    have x2 := Ext.cell g0 2
    simp at x0 x1 x2
    rcases hi with ⟨rfl, g1⟩ | ⟨rfl, g1⟩ | ⟨rfl, g1⟩ | ⟨rfl, g1⟩
    · have y3 := Ext.cell g1 3
      simp at y3
      cases hq : b.a == d0
      · have E : X = b.x := by rw [HX.out, if_neg (by simpa using hq)]
        subst E
        go_wp2
        refine wp_region_look hmx (by kernel_rfl) ?_
        repeat (go_big_quiet_step (fail))
        refine wpQuiet_nil ?_
        intro v
        go_wp2
        go_roundw
        case rel => exact ⟨.inr (.inl ⟨rfl, g1.later v.le⟩), g0.later v.le, g2.later v.le, then_below hB v.le⟩
        case measure => simp [RowKit.intOf]
      · have E : X = 0 := by rw [HX.out, if_pos (by simpa using hq)]
        subst E
        go_wp2
        refine wp_region_look hmx (by kernel_rfl) ?_
        repeat (go_big_quiet_step (fail))
        refine wpQuiet_nil ?_
        intro v
        have q1 := g1.later v.le
        obtain ⟨⟨c0, c1, c2, c3, c4, c5⟩, f0, f1, f2, f3, f4, f5⟩ := q1.row6
        go_wp2
        go_roundw
        case rel => exact ⟨.inr (.inl ⟨rfl, q1.set 0 (I 0)⟩), (g0.later v.le).other _ _ (by omega), (g2.later v.le).other _ _ (by omega), (then_below hB v.le).setCell (p := ⟨w.heap.size + 1, 0, none⟩) (by simp) _⟩
        case measure => simp [RowKit.intOf]
    · have y3 := Ext.cell g1 4
      simp at y3
      cases hq : b.b == d1
      · have E : Y = b.y := by rw [HY.out, if_neg (by simpa using hq)]
        subst E
        go_wp2
        refine wp_region_look hmx (by kernel_rfl) ?_
        repeat (go_big_quiet_step (fail))
        refine wpQuiet_nil ?_
        intro v
        go_wp2
        go_roundw
        case rel => exact ⟨.inr (.inr (.inl ⟨rfl, g1.later v.le⟩)), g0.later v.le, g2.later v.le, then_below hB v.le⟩
        case measure => simp [RowKit.intOf]
      · have E : Y = 0 := by rw [HY.out, if_pos (by simpa using hq)]
        subst E
        go_wp2
        refine wp_region_look hmx (by kernel_rfl) ?_
        repeat (go_big_quiet_step (fail))
        refine wpQuiet_nil ?_
        intro v
        have q1 := g1.later v.le
        obtain ⟨⟨c0, c1, c2, c3, c4, c5⟩, f0, f1, f2, f3, f4, f5⟩ := q1.row6
        go_wp2
        go_roundw
        case rel => exact ⟨.inr (.inr (.inl ⟨rfl, q1.set 1 (I 0)⟩)), (g0.later v.le).other _ _ (by omega), (g2.later v.le).other _ _ (by omega), (then_below hB v.le).setCell (p := ⟨w.heap.size + 1, 1, none⟩) (by simp) _⟩
        case measure => simp [RowKit.intOf]
    · have y3 := Ext.cell g1 5
      simp at y3
      cases hq : b.c == d2
      · have E : Z = b.z := by rw [HZ.out, if_neg (by simpa using hq)]
        subst E
        go_wp2
        refine wp_region_look hmx (by kernel_rfl) ?_
        repeat (go_big_quiet_step (fail))
        refine wpQuiet_nil ?_
        intro v
        go_wp2
        go_roundw
        case rel => exact ⟨.inr (.inr (.inr ⟨rfl, g1.later v.le⟩)), g0.later v.le, g2.later v.le, then_below hB v.le⟩
        case measure => simp [RowKit.intOf]
      · have E : Z = 0 := by rw [HZ.out, if_pos (by simpa using hq)]
        subst E
        go_wp2
        refine wp_region_look hmx (by kernel_rfl) ?_
        repeat (go_big_quiet_step (fail))
        refine wpQuiet_nil ?_
        intro v
        have q1 := g1.later v.le
        obtain ⟨⟨c0, c1, c2, c3, c4, c5⟩, f0, f1, f2, f3, f4, f5⟩ := q1.row6
        go_wp2
        go_roundw
        case rel => exact ⟨.inr (.inr (.inr ⟨rfl, q1.set 2 (I 0)⟩)), (g0.later v.le).other _ _ (by omega), (g2.later v.le).other _ _ (by omega), (then_below hB v.le).setCell (p := ⟨w.heap.size + 1, 2, none⟩) (by simp) _⟩
        case measure => simp [RowKit.intOf]
    · obtain ⟨⟨c0, c1, c2, c3, c4, c5⟩, _⟩ := g1.row6
      obtain ⟨⟨k0, k1, k2, k3, k4, k5⟩, f0, f1, f2, f3, f4, f5⟩ := g2.row6
      clear x0 x1 x2
      go_wp2
      obtain ⟨⟨j0, j1, j2, j3, j4, j5⟩, _⟩ := (g2.set6 (I X) (I Y) (I Z) (I b.a) (I b.b) (I b.c)).row6
      have hBX := below_set6 hB (show w.heap.size ≤ w.heap.size + 1 + 1 by omega) (I X) (I Y) (I Z) (I b.a) (I b.b) (I b.c)
      exact bodyPost_ret (v := .agg #[I X, I Y, I Z, I b.a, I b.b, I b.c]) (by simp [results, Tryz.f115, go_sem, j0, j1, j2, j3, j4, j5]) rfl ⟨rfl, hBX⟩

end Go.Proofs.YtldcagjnngkabaaGreatDoor

/-
  What the document's own answer for layer 2 (tidehallref02) gives: In, Has.
-/
namespace Go.Proofs.YtldcagjnngkabaaGreatDoor
open Go.RowKit Go.Shelf

attribute [local go_sem] Oper.semAt_some ext_const

/-- One of the first n steps on from b is p. -/
def thereS (r b p : Int) (n : Nat) : Bool := (List.range n).any fun j => (b + (j : Int)) % r == p
theorem thereS_succ (r b p : Int) (n : Nat) : thereS r b p (n + 1) = (thereS r b p n || (b + (n : Int)) % r == p) := by
  simp [thereS, List.range_succ, List.any_append]
theorem thereS_all {r b s p : Int} {n : Nat} (h : mayS r b s) (hp : 0 ≤ p ∧ p < r) (hn : (n : Int) = s) : thereS r b p n = hasS r b s p := by
  rw [Bool.eq_iff_iff, hasS_iff h hp, thereS, List.any_eq_true]
  constructor
  · rintro ⟨j, hj, he⟩
    exact ⟨j, by omega, by have := List.mem_range.1 hj; omega, by simpa using he⟩
  · rintro ⟨j, j0, j1, he⟩
    exact ⟨j.toNat, List.mem_range.2 (by omega), by rw [Int.toNat_of_nonneg j0]; simpa using he⟩

set_option maxRecDepth 100000 in
set_option maxHeartbeats 8000000 in
theorem rin_calls {d0 d1 d2 m : Int} {b : Bx} (w : World) (hm : mayD d0 d1 d2) (hb : mayB d0 d1 d2 b) (hn : 0 ≤ m ∧ m < d0 * d1 * d2) :
    Calls Tryz.prog 149 #[A3 d0 d1 d2, B6 b, I m] w fun e W' => e = .returned (.bool (hasB d0 d1 d2 b m)) ∧ Below w.heap.size w W' := by
  have hmx : Tryz.prog.follows .mixedOrders = true := by kernel_rfl
  have HN : Hid (0 ≤ m ∧ m < d0 * d1 * d2) := hn
  have HI : Hid (inD d0 d1 d2 (cx d0 m) (cy d0 d1 m) (cz d0 d1 m)) := inD_of_node hm hn
  have HB : Hid (mayB d0 d1 d2 b) := hb
  have hm' := hm
  obtain ⟨⟨g0, g1⟩, ⟨g2, g3⟩, g4, g5⟩ := hm'
  obtain ⟨⟨⟨s0, s1⟩, s2, s3⟩, ⟨⟨s4, s5⟩, s6, s7⟩, ⟨s8, s9⟩, s10, s11⟩ := hb
  have HW : Hid (∀ w : World, Calls Tryz.prog 150 #[A3 d0 d1 d2, I m] w fun e W' => e = .returned (A3 (cx d0 m) (cy d0 d1 m) (cz d0 d1 m)) ∧ Below w.heap.size w W') := fun w => rwhere_calls w hm hn
  clear hn
  unfold hasB
  generalize cx d0 m = p0 at HW HI ⊢
  generalize cy d0 d1 m = p1 at HW HI ⊢
  generalize cz d0 d1 m = p2 at HW HI ⊢
  go_enter Tryz.func149, Tryz.ntmps149
  go_wp2_with fail
  obtain ⟨W, hW, hB0, b0, b1⟩ := two_start w #[I d0, I d1, I d2] (C6 b) 23 40
  rw [hW]
  clear hW
  refine (HW.out _).mono ?_
  rintro e w1 ⟨rfl, hT⟩
  go_wp2_with fail
  have q0 := (b0.later hT).alloc (.cells #[I p0, I p1, I p2] 22)
  have q1 := (b1.later hT).alloc (.cells #[I p0, I p1, I p2] 22)
  have q2 := Blk.new w1 22 #[I p0, I p1, I p2]
  have hB0 := then_alloc (then_below hB0 hT) (.cells #[I p0, I p1, I p2] 22)
  generalize w1.alloc (.cells #[I p0, I p1, I p2] 22) = W1 at *
  go_loopw [8] (fun i wr => (i = .int .i64 0 ∨ (i = .int .i64 1 ∧ Hid (hasS d0 b.x b.a p0 = true)) ∨ (i = .int .i64 2 ∧ Hid (hasS d0 b.x b.a p0 = true ∧ hasS d1 b.y b.b p1 = true)) ∨ (i = .int .i64 3 ∧ Hid (hasS d0 b.x b.a p0 = true ∧ hasS d1 b.y b.b p1 = true ∧ hasS d2 b.z b.c p2 = true))) ∧ Below W1.heap.size W1 wr) (fun i _ => 3 - (RowKit.intOf i).toNat)
  case atStart => exact ⟨.inl rfl, Below.refl _ _⟩
  case round =>
    obtain ⟨hi, hT1⟩ := hrel
    rcases hi with rfl | ⟨rfl, H⟩ | ⟨rfl, H⟩ | ⟨rfl, H⟩
    · go_wp2
      go_loopw [9, 10] (fun t k wr => ∃ j : Nat, (j : Int) ≤ b.a ∧ k = .int .i64 j ∧ t = .bool (thereS d0 b.x p0 j) ∧ Below W1.heap.size W1 wr) (fun _ k _ => b.a.toNat - (RowKit.intOf k).toNat)
      case atStart => exact ⟨0, by omega, rfl, rfl, hT1⟩
      case round =>
        obtain ⟨j, hj, rfl, rfl, hT⟩ := hrel
        by_cases hlt : (j : Int) < b.a
        · have y0 := (q1.later hT).cell 3
          simp at y0
          have e0 := Ext.cell (q0.later hT) 0
          have e1 := Ext.cell (q1.later hT) 0
          have e2 := Ext.cell (q2.later hT) 0
          simp at e0 e1 e2
          cases hq : ((b.x + (j : Int)) % d0 == p0)
          · go_wp2
            refine wp_region_look hmx (by kernel_rfl) ?_
            repeat (go_big_quiet_step (fail))
            refine wpQuiet_nil ?_
            intro v
            go_wp2
            go_roundw
            case rel => exact ⟨j + 1, by omega, by go_num, by rw [thereS_succ, hq]; simp, then_below hT v.le⟩
            case measure => simp [RowKit.intOf]; omega
          · go_wp2
            refine wp_region_look hmx (by kernel_rfl) ?_
            repeat (go_big_quiet_step (fail))
            refine wpQuiet_nil ?_
            intro v
            go_wp2
            go_roundw
            case rel => exact ⟨j + 1, by omega, by go_num, by rw [thereS_succ, hq]; simp, then_below hT v.le⟩
            case measure => simp [RowKit.intOf]; omega
        · have y0 := (q1.later hT).cell 3
          simp at y0
          have E : thereS d0 b.x p0 j = hasS d0 b.x b.a p0 := thereS_all HB.out.1 HI.out.1 (by omega)
          rw [E]
          clear E
          cases hq : hasS d0 b.x b.a p0
          · go_wp2
            go_ret
            exact ⟨by simp, then_below hB0 hT⟩
          · go_wp2
            go_roundw
            case rel => exact ⟨.inr (.inl ⟨rfl, hq⟩), hT⟩
            case measure => simp [RowKit.intOf]
    · go_wp2
      go_loopw [9, 10] (fun t k wr => ∃ j : Nat, (j : Int) ≤ b.b ∧ k = .int .i64 j ∧ t = .bool (thereS d1 b.y p1 j) ∧ Below W1.heap.size W1 wr) (fun _ k _ => b.b.toNat - (RowKit.intOf k).toNat)
      case atStart => exact ⟨0, by omega, rfl, rfl, hT1⟩
      case round =>
        obtain ⟨j, hj, rfl, rfl, hT⟩ := hrel
        by_cases hlt : (j : Int) < b.b
        · have y0 := (q1.later hT).cell 4
          simp at y0
          have e0 := Ext.cell (q0.later hT) 1
          have e1 := Ext.cell (q1.later hT) 1
          have e2 := Ext.cell (q2.later hT) 1
          simp at e0 e1 e2
          cases hq : ((b.y + (j : Int)) % d1 == p1)
          · go_wp2
            refine wp_region_look hmx (by kernel_rfl) ?_
            repeat (go_big_quiet_step (fail))
            refine wpQuiet_nil ?_
            intro v
            go_wp2
            go_roundw
            case rel => exact ⟨j + 1, by omega, by go_num, by rw [thereS_succ, hq]; simp, then_below hT v.le⟩
            case measure => simp [RowKit.intOf]; omega
          · go_wp2
            refine wp_region_look hmx (by kernel_rfl) ?_
            repeat (go_big_quiet_step (fail))
            refine wpQuiet_nil ?_
            intro v
            go_wp2
            go_roundw
            case rel => exact ⟨j + 1, by omega, by go_num, by rw [thereS_succ, hq]; simp, then_below hT v.le⟩
            case measure => simp [RowKit.intOf]; omega
        · have y0 := (q1.later hT).cell 4
          simp at y0
          have E : thereS d1 b.y p1 j = hasS d1 b.y b.b p1 := thereS_all HB.out.2.1 HI.out.2.1 (by omega)
          rw [E]
          clear E
          cases hq : hasS d1 b.y b.b p1
          · go_wp2
            go_ret
            exact ⟨by simp, then_below hB0 hT⟩
          · go_wp2
            go_roundw
            case rel => exact ⟨.inr (.inr (.inl ⟨rfl, H.out, hq⟩)), hT⟩
            case measure => simp [RowKit.intOf]
    · go_wp2
      go_loopw [9, 10] (fun t k wr => ∃ j : Nat, (j : Int) ≤ b.c ∧ k = .int .i64 j ∧ t = .bool (thereS d2 b.z p2 j) ∧ Below W1.heap.size W1 wr) (fun _ k _ => b.c.toNat - (RowKit.intOf k).toNat)
      case atStart => exact ⟨0, by omega, rfl, rfl, hT1⟩
      case round =>
        obtain ⟨j, hj, rfl, rfl, hT⟩ := hrel
        by_cases hlt : (j : Int) < b.c
        · have y0 := (q1.later hT).cell 5
          simp at y0
          have e0 := Ext.cell (q0.later hT) 2
          have e1 := Ext.cell (q1.later hT) 2
          have e2 := Ext.cell (q2.later hT) 2
          simp at e0 e1 e2
          cases hq : ((b.z + (j : Int)) % d2 == p2)
          · go_wp2
            refine wp_region_look hmx (by kernel_rfl) ?_
            repeat (go_big_quiet_step (fail))
            refine wpQuiet_nil ?_
            intro v
            go_wp2
            go_roundw
            case rel => exact ⟨j + 1, by omega, by go_num, by rw [thereS_succ, hq]; simp, then_below hT v.le⟩
            case measure => simp [RowKit.intOf]; omega
          · go_wp2
            refine wp_region_look hmx (by kernel_rfl) ?_
            repeat (go_big_quiet_step (fail))
            refine wpQuiet_nil ?_
            intro v
            go_wp2
            go_roundw
            case rel => exact ⟨j + 1, by omega, by go_num, by rw [thereS_succ, hq]; simp, then_below hT v.le⟩
            case measure => simp [RowKit.intOf]; omega
        · have y0 := (q1.later hT).cell 5
          simp at y0
          have E : thereS d2 b.z p2 j = hasS d2 b.z b.c p2 := thereS_all HB.out.2.2 HI.out.2.2 (by omega)
          rw [E]
          clear E
          cases hq : hasS d2 b.z b.c p2
          · go_wp2
            go_ret
            exact ⟨by simp, then_below hB0 hT⟩
          · go_wp2
            go_roundw
            case rel => exact ⟨.inr (.inr (.inr ⟨rfl, H.out.1, H.out.2, hq⟩)), hT⟩
            case measure => simp [RowKit.intOf]
    · go_wp2
      go_ret
      exact ⟨by simp [H.out.1, H.out.2.1, H.out.2.2], then_below hB0 hT1⟩

end Go.Proofs.YtldcagjnngkabaaGreatDoor

/-
  What the document's own answer for layer 2 (tidehallref02) gives: All, Nodes: a box's midplanes, rising, in new memory.
-/
namespace Go.Proofs.YtldcagjnngkabaaGreatDoor
open Go.RowKit Go.Shelf

attribute [local go_sem] Oper.semAt_some ext_const

/-- Of the first k midplanes those of a box. -/
def nodesTo (d0 d1 d2 : Int) (b : Bx) (k : Nat) : List Int := ((List.range k).filter (fun m : Nat => hasB d0 d1 d2 b m)).map (fun m : Nat => (m : Int))
def nodesB (d0 d1 d2 : Int) (b : Bx) : List Int := nodesTo d0 d1 d2 b (d0 * d1 * d2).toNat
theorem nodesTo_len (d0 d1 d2 : Int) (b : Bx) (k : Nat) : (nodesTo d0 d1 d2 b k).length ≤ k := by
  have := List.length_filter_le (fun m : Nat => hasB d0 d1 d2 b m) (List.range k)
  simpa [nodesTo] using this
theorem nodesTo_yes {d0 d1 d2 : Int} {b : Bx} {k : Nat} (h : hasB d0 d1 d2 b k = true) : nodesTo d0 d1 d2 b (k + 1) = nodesTo d0 d1 d2 b k ++ [(k : Int)] := by
  simp [nodesTo, List.range_succ, List.filter_append, h]
theorem nodesTo_no {d0 d1 d2 : Int} {b : Bx} {k : Nat} (h : hasB d0 d1 d2 b k = false) : nodesTo d0 d1 d2 b (k + 1) = nodesTo d0 d1 d2 b k := by
  simp [nodesTo, List.range_succ, List.filter_append, h]
theorem nodesB_len {d0 d1 d2 : Int} (hm : mayD d0 d1 d2) (b : Bx) : (nodesB d0 d1 d2 b).length ≤ 4096 := by
  have h1 := nodesTo_len d0 d1 d2 b (d0 * d1 * d2).toNat
  have h2 := N_bd hm
  unfold nodesB
  omega

set_option maxRecDepth 100000 in
set_option maxHeartbeats 2000000 in
theorem rall_calls {d0 d1 d2 : Int} {b : Bx} (w : World) (hm : mayD d0 d1 d2) (hb : mayB d0 d1 d2 b) :
    Calls Tryz.prog 116 #[A3 d0 d1 d2, B6 b] w fun e W' => ∃ v, e = .returned v ∧ Lst W' w.heap.size v (nodesB d0 d1 d2 b) ∧ Below w.heap.size w W' := by
  obtain ⟨N, hN⟩ : ∃ N, N = d0 * d1 * d2 := ⟨_, rfl⟩
  have HI : Hid (∀ (w : World) (m : Int), 0 ≤ m → m < N → Calls Tryz.prog 149 #[A3 d0 d1 d2, B6 b, I m] w fun e W' => e = .returned (.bool (hasB d0 d1 d2 b m)) ∧ Below w.heap.size w W') :=
    fun w m h0 h1 => rin_calls w hm hb ⟨h0, by omega⟩
  have HN : Hid (∀ w : World, Calls Tryz.prog 39 #[A3 d0 d1 d2] w fun e W' => e = .returned (I N) ∧ Below w.heap.size w W') := fun w => by rw [hN]; exact rn_calls w hm
  have hbd := N_bd hm
  rw [← hN] at hbd
  obtain ⟨hbd1, hbd2⟩ := hbd
  unfold nodesB
  rw [← hN]
  clear hN
  go_enter Tryz.func116, Tryz.ntmps116
  go_wp2
  obtain ⟨W, hW, hB0, b0, b1⟩ := two_start w #[I d0, I d1, I d2] (C6 b) 23 40
  rw [hW]
  clear hW
  go_loopw [5, 6] (fun v i wr => ∃ k : Nat, (k : Int) ≤ N ∧ i = .int .i64 k ∧ Lst wr W.heap.size v (nodesTo d0 d1 d2 b k) ∧ Below W.heap.size W wr) (fun _ i _ => N.toNat - (RowKit.intOf i).toNat)
  case atStart => exact ⟨0, by omega, rfl, Lst.nil _ _, Below.refl _ _⟩
  case round =>
    obtain ⟨k, hk, rfl, hL, hT⟩ := hrel
    obtain ⟨c0, c1, c2, hz⟩ := b0.three hT
    go_wp2_with fail
    refine (HN.out _).mono ?_
    rintro e w1 ⟨rfl, hB1⟩
    have hL := hL.later hB1
    have hT := then_below hT hB1
    clear c0 c1 c2 hz hB1
    by_cases hlt : (k : Int) < N
    · obtain ⟨c0, c1, c2, hz⟩ := b0.three hT
      obtain ⟨⟨k0, k1, k2⟩, ⟨k3, k4, k5⟩, hz1⟩ := b1.six hT
      go_wp2_with fail
      refine (HI.out _ k (by omega) hlt).mono ?_
      rintro e w2 ⟨rfl, hB2⟩
      have hL := hL.later hB2
      have hT := then_below hT hB2
      clear c0 c1 c2 hz k0 k1 k2 k3 k4 k5 hz1 hB2
      cases hq : hasB d0 d1 d2 b k
      · go_wp2
        go_roundw
        case rel => exact ⟨k + 1, by omega, by go_num, by rw [nodesTo_no hq]; exact hL, hT⟩
        case measure => simp [RowKit.intOf]; omega
      · go_wp2_with (at_builtin; refine wpList_app rfl _ _ rfl rfl rfl hL (by have := nodesTo_len d0 d1 d2 b k; omega) hT.size ?_; intro v' w3 hL3 hT3)
        have hT := hT.trans hT3
        rw [← nodesTo_yes hq] at hL3
        clear hT3 hL
        go_roundw
        case rel => exact ⟨k + 1, by omega, by go_num, hL3, hT⟩
        case measure => simp [RowKit.intOf]; omega
    · have E : N.toNat = k := by omega
      have hL' : Lst w1 w.heap.size _ (nodesTo d0 d1 d2 b N.toNat) := (E ▸ hL).weak hB0.size
      clear hL E
      go_wp2
      go_ret
      exact ⟨_, rfl, hL', then_below hB0 hT⟩

end Go.Proofs.YtldcagjnngkabaaGreatDoor

/-
  A box's midplanes, rising, are its coordinates gone through axis by axis, the first innermost.
-/
namespace Go.Proofs.YtldcagjnngkabaaGreatDoor

theorem range_mul (n m : Nat) : List.range (n * m) = (List.range m).flatMap fun q => (List.range n).map fun r => r + n * q := by
  induction m with
  | zero => simp
  | succ m ih =>
    rw [Nat.mul_succ, List.range_add, ih, List.range_succ, List.flatMap_append]
    congr 1
    simp [Nat.add_comm]
theorem flatMap_if {α β : Type} (p : α → Bool) (f : α → List β) : ∀ l : List α, (l.flatMap fun a => if p a then f a else []) = (l.filter p).flatMap f
  | [] => rfl
  | a :: l => by
    have ih := flatMap_if p f l
    cases h : p a <;> simp [h, ih]
theorem flatMap_same {α β : Type} {f g : α → List β} : ∀ {l : List α}, (∀ a ∈ l, f a = g a) → l.flatMap f = l.flatMap g
  | [], _ => rfl
  | a :: l, h => by
    simp only [List.flatMap_cons]
    rw [h a (by simp), flatMap_same (fun b hb => h b (by simp [hb]))]

theorem nodesB_flat {d0 d1 d2 : Int} {b : Bx} (hm : mayD d0 d1 d2) :
    (coordsS d2 b.z b.c).flatMap (fun z => (coordsS d1 b.y b.b).flatMap fun y => (coordsS d0 b.x b.a).map fun x => numD d0 d1 x y z) = nodesB d0 d1 d2 b := by
  have hm' := hm
  obtain ⟨h0, h1, h2⟩ := hm'
  unfold okD at h0 h1 h2
  obtain ⟨D0, rfl⟩ := Int.eq_ofNat_of_zero_le (show 0 ≤ d0 by omega)
  obtain ⟨D1, rfl⟩ := Int.eq_ofNat_of_zero_le (show 0 ≤ d1 by omega)
  obtain ⟨D2, rfl⟩ := Int.eq_ofNat_of_zero_le (show 0 ≤ d2 by omega)
  have hN : ((D0 : Int) * D1 * D2).toNat = D0 * (D1 * D2) := by
    have h : ((D0 : Int) * D1 * D2) = ((D0 * (D1 * D2) : Nat) : Int) := by push_cast; rw [Int.mul_assoc]
    rw [h, Int.toNat_natCast]
  have hR : List.range (D0 * (D1 * D2)) = (List.range D2).flatMap fun z => (List.range D1).flatMap fun y => (List.range D0).map fun x => x + D0 * (y + D1 * z) := by
    rw [range_mul D0, range_mul D1, List.flatMap_assoc]
    simp only [List.flatMap_map]
  unfold nodesB nodesTo
  rw [hN, hR, List.filter_flatMap, List.map_flatMap]
  unfold coordsS coordsTo
  simp only [Int.toNat_natCast]
  rw [List.flatMap_map, ← flatMap_if]
  refine flatMap_same fun z hz => ?_
  have hz := List.mem_range.1 hz
  rw [List.filter_flatMap, List.map_flatMap]
  cases hcz : hasS D2 b.z b.c z
  · simp only [Bool.false_eq_true, if_false]
    symm
    rw [List.flatMap_eq_nil_iff]
    intro y hy
    have hy := List.mem_range.1 hy
    rw [List.map_eq_nil_iff, List.filter_eq_nil_iff]
    intro m hmm
    obtain ⟨x, hx, rfl⟩ := List.mem_map.1 hmm
    have hx := List.mem_range.1 hx
    have := hasB_num (b := b) hm (p := x) (q := y) (r := z) ⟨by omega, by omega, by omega⟩
    rw [show (((x + D0 * (y + D1 * z) : Nat)) : Int) = numD D0 D1 x y z by unfold numD; push_cast; rfl, this, hcz]
    simp
  · simp only [if_true]
    rw [List.flatMap_map, ← flatMap_if]
    refine flatMap_same fun y hy => ?_
    have hy := List.mem_range.1 hy
    have hnum : ∀ x, x < D0 → hasB D0 D1 D2 b ((x + D0 * (y + D1 * z) : Nat) : Int) = (hasS D0 b.x b.a x && hasS D1 b.y b.b y) := by
      intro x hx
      have := hasB_num (b := b) hm (p := x) (q := y) (r := z) ⟨by omega, by omega, by omega⟩
      rw [show (((x + D0 * (y + D1 * z) : Nat)) : Int) = numD D0 D1 x y z by unfold numD; push_cast; rfl, this, hcz, Bool.and_true]
    rw [List.filter_map, List.map_map, List.map_map]
    cases hcy : hasS D1 b.y b.b y
    · simp only [Bool.false_eq_true, if_false]
      symm
      rw [List.map_eq_nil_iff, List.filter_eq_nil_iff]
      intro x hx
      rw [Function.comp, hnum x (List.mem_range.1 hx), hcy]
      simp
    · simp only [if_true]
      rw [show (List.range D0).filter ((fun m : Nat => hasB D0 D1 D2 b m) ∘ fun x => x + D0 * (y + D1 * z)) = (List.range D0).filter (fun j : Nat => hasS D0 b.x b.a j) from List.filter_congr fun x hx => by
        rw [Function.comp, hnum x (List.mem_range.1 hx), hcy, Bool.and_true]]
      refine List.map_congr_left fun x _ => ?_
      simp [Function.comp, numD]

theorem coordsS_get {r b s : Int} (hr : 0 ≤ r) {k : Nat} (hk : k < (coordsS r b s).length) : 0 ≤ (coordsS r b s).getD k 0 ∧ (coordsS r b s).getD k 0 < r := by
  have hmem : (coordsS r b s).getD k 0 ∈ coordsS r b s := by
    rw [show (coordsS r b s).getD k 0 = (coordsS r b s)[k] by simp [hk]]; exact List.getElem_mem hk
  generalize (coordsS r b s).getD k 0 = x at hmem
  simp only [coordsS, coordsTo, List.mem_map, List.mem_filter, List.mem_range] at hmem
  obtain ⟨j, ⟨h1, _⟩, rfl⟩ := hmem
  omega
theorem coordsS_len {r b s : Int} (hr : r ≤ 16) : (coordsS r b s).length ≤ 16 := by
  have := coordsTo_len r b s r.toNat
  unfold coordsS
  omega

section
variable (d0 d1 : Int) (X Y Z T : List Int)
def rowG (z y : Int) : List Int := X.map fun x => numD d0 d1 x y z
def rowF (z : Int) : List Int := Y.flatMap (rowG d0 d1 X z)
/-- What is gathered, and what is still to come: in the outer loop, the middle one, the inner one. -/
def eqO (L : List Int) (i : Nat) : Prop := L ++ (Z.drop i).flatMap (rowF d0 d1 X Y) = T
def eqM (L : List Int) (i j : Nat) : Prop := L ++ ((Y.drop j).flatMap (rowG d0 d1 X (Z.getD i 0)) ++ (Z.drop (i + 1)).flatMap (rowF d0 d1 X Y)) = T
def eqI (L : List Int) (i j k : Nat) : Prop :=
  L ++ ((X.drop k).map (fun x => numD d0 d1 x (Y.getD j 0) (Z.getD i 0)) ++ ((Y.drop (j + 1)).flatMap (rowG d0 d1 X (Z.getD i 0)) ++ (Z.drop (i + 1)).flatMap (rowF d0 d1 X Y))) = T
theorem drop_at {l : List Int} {i : Nat} (h : i < l.length) : l.drop i = l.getD i 0 :: l.drop (i + 1) := by
  rw [List.drop_eq_getElem_cons h]; simp [h]
variable {d0 d1 X Y Z T} {L : List Int} {i j k : Nat}
theorem eqO_in (hi : i < Z.length) (h : eqO d0 d1 X Y Z T L i) : eqM d0 d1 X Y Z T L i 0 := by
  unfold eqO at h; unfold eqM
  rw [drop_at hi, List.flatMap_cons] at h
  rw [List.drop_zero]; exact h
theorem eqM_in (hj : j < Y.length) (h : eqM d0 d1 X Y Z T L i j) : eqI d0 d1 X Y Z T L i j 0 := by
  unfold eqM at h; unfold eqI
  rw [drop_at hj, List.flatMap_cons, List.append_assoc] at h
  rw [List.drop_zero]; exact h
theorem eqI_step (hk : k < X.length) (h : eqI d0 d1 X Y Z T L i j k) : eqI d0 d1 X Y Z T (L ++ [numD d0 d1 (X.getD k 0) (Y.getD j 0) (Z.getD i 0)]) i j (k + 1) := by
  unfold eqI at h ⊢
  rw [drop_at hk, List.map_cons] at h
  rw [← h]
  simp
theorem eqI_out (hk : X.length ≤ k) (h : eqI d0 d1 X Y Z T L i j k) : eqM d0 d1 X Y Z T L i (j + 1) := by
  unfold eqI at h; unfold eqM
  rw [List.drop_of_length_le hk] at h; exact h
theorem eqM_out (hj : Y.length ≤ j) (h : eqM d0 d1 X Y Z T L i j) : eqO d0 d1 X Y Z T L (i + 1) := by
  unfold eqM at h; unfold eqO
  rw [List.drop_of_length_le hj] at h; exact h
theorem eqO_out (hi : Z.length ≤ i) (h : eqO d0 d1 X Y Z T L i) : L = T := by
  unfold eqO at h
  rw [List.drop_of_length_le hi] at h; simpa using h
theorem eqI_len (h : eqI d0 d1 X Y Z T L i j k) : L.length ≤ T.length := by
  have := congrArg List.length h
  simp only [List.length_append] at this
  omega
end

end Go.Proofs.YtldcagjnngkabaaGreatDoor

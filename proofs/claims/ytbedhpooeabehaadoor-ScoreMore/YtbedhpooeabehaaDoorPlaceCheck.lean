/-
  place.Check and place.first: what each call answers; nothing that lay before is turned.
-/
import Derived.Test.YtbedhpooeabehaaDoorPart14
import Derived.Test.YtbedhpooeabehaaDoorPart12
namespace Go.Proofs.YtbedhpooeabehaaDoor
open Go Go.RowKit Go.Shelf

theorem bx0 (x y z : Bool) (w : World) : (Instr.index 30 (.agg #[.bool x, .bool y, .bool z]) (.int .i64 0)).run Tryd.prog w = .ok (.bool x) w := by kernel_rfl
theorem bx1 (x y z : Bool) (w : World) : (Instr.index 30 (.agg #[.bool x, .bool y, .bool z]) (.int .i64 1)).run Tryd.prog w = .ok (.bool y) w := by kernel_rfl
theorem bx2 (x y z : Bool) (w : World) : (Instr.index 30 (.agg #[.bool x, .bool y, .bool z]) (.int .i64 2)).run Tryd.prog w = .ok (.bool z) w := by kernel_rfl

attribute [local go_sem] Oper.semAt_some ext_const eq_arr eq_arr9 same3_self bx0 bx1 bx2

abbrev C9 (b : Bx) (p q r : Bool) : Array Value := #[I b.x, I b.y, I b.z, I b.a, I b.b, I b.c, .bool p, .bool q, .bool r]
theorem Blk.nine {W W' : World} {B : Nat} {t : TypeId} {b : Bx} {p q r : Bool} (h : Blk W B t (C9 b p q r)) (hb : Below W.heap.size W W') :
    (W'.cell? ⟨B, 0, none⟩ = some (I b.x) ∧ W'.cell? ⟨B, 1, none⟩ = some (I b.y) ∧ W'.cell? ⟨B, 2, none⟩ = some (I b.z)) ∧ (W'.cell? ⟨B, 3, none⟩ = some (I b.a) ∧ W'.cell? ⟨B, 4, none⟩ = some (I b.b) ∧ W'.cell? ⟨B, 5, none⟩ = some (I b.c)) ∧
    (W'.cell? ⟨B, 6, none⟩ = some (.bool p) ∧ W'.cell? ⟨B, 7, none⟩ = some (.bool q) ∧ W'.cell? ⟨B, 8, none⟩ = some (.bool r)) ∧ B < W'.heap.size :=
  ⟨⟨(h.later hb).cell 0, (h.later hb).cell 1, (h.later hb).cell 2⟩, ⟨(h.later hb).cell 3, (h.later hb).cell 4, (h.later hb).cell 5⟩, ⟨(h.later hb).cell 6, (h.later hb).cell 7, (h.later hb).cell 8⟩, (h.later hb).lt⟩

theorem errP_err {d0 d1 d2 : Int} {b : Bx} (t0 t1 t2 : Bool) (he : (errB d0 d1 d2 b != 0) = true) : errP d0 d1 d2 b t0 t1 t2 = errB d0 d1 d2 b := by
  unfold errB at he ⊢
  unfold errP
  cases h1 : okDB d0 d1 d2
  · rfl
  · cases h2 : mayBB d0 d1 d2 b
    · simp [mayPB, h2]
    · simp [h1, h2, codeOf] at he
theorem errP_box {d0 d1 d2 : Int} {b : Bx} (t0 t1 t2 : Bool) (hm : mayD d0 d1 d2) (hb : mayB d0 d1 d2 b) : errP d0 d1 d2 b t0 t1 t2 = codeOf (sameBx b (canonB d0 d1 d2 b) && !torB b t0 t1 t2) := by
  unfold errP mayPB
  rw [(okDB_iff _ _ _).2 hm, (mayBB_iff _ _ _ _).2 hb]
  simp

set_option maxRecDepth 100000 in
set_option maxHeartbeats 2000000 in
theorem pcheck_err {d0 d1 d2 : Int} {b : Bx} (t0 t1 t2 : Bool) (w : World) (he : (errB d0 d1 d2 b != 0) = true) :
    Calls Tryd.prog 27 #[A3 d0 d1 d2, P9 b t0 t1 t2] w fun e W' => e = .returned (I (errB d0 d1 d2 b)) ∧ Below w.heap.size w W' := by
  have HC : Hid (∀ w, Calls Tryd.prog 39 #[A3 d0 d1 d2, B6 b] w fun e W' => e = .returned (.tuple #[B6 ⟨0, 0, 0, 0, 0, 0⟩, I (errB d0 d1 d2 b)]) ∧ Below w.heap.size w W') := fun w => bcanon_err w he
  generalize errB d0 d1 d2 b = er at *
  go_enter Tryd.func27, Tryd.ntmps27
  go_wp2_with fail
  obtain ⟨W, hW, hB0, b0, b1⟩ := two_start w #[I d0, I d1, I d2] (C9 b t0 t1 t2) 26 32
  rw [hW]
  clear hW
  refine (HC.out _).mono ?_
  rintro e w1 ⟨rfl, hT⟩
  have hB := then_below hB0 hT
  clear hT b0 b1
  go_wp2
  go_ret
  exact ⟨rfl, then_alloc hB _⟩

set_option maxRecDepth 100000 in
set_option maxHeartbeats 4000000 in
theorem pcheck_not {d0 d1 d2 : Int} {b : Bx} (t0 t1 t2 : Bool) (w : World) (hm : mayD d0 d1 d2) (hb : mayB d0 d1 d2 b) (hs : sameBx b (canonB d0 d1 d2 b) = false) :
    Calls Tryd.prog 27 #[A3 d0 d1 d2, P9 b t0 t1 t2] w fun e W' => e = .returned (I 2) ∧ Below w.heap.size w W' := by
  have HC : Hid (∀ w, Calls Tryd.prog 39 #[A3 d0 d1 d2, B6 b] w fun e W' => e = .returned (.tuple #[B6 (canonB d0 d1 d2 b), I 0]) ∧ Below w.heap.size w W') := fun w => bcanon_ok w hm hb
  generalize canonB d0 d1 d2 b = c at *
  have hs : same3 b.x b.y b.z c.x c.y c.z = false ∨ (same3 b.x b.y b.z c.x c.y c.z = true ∧ same3 b.a b.b b.c c.a c.b c.c = false) := by
    unfold sameBx at hs
    cases h1 : same3 b.x b.y b.z c.x c.y c.z
    · exact .inl rfl
    · rw [h1, Bool.true_and] at hs
      exact .inr ⟨rfl, hs⟩
  rcases hs with h1 | ⟨h1, h2⟩
  · go_enter Tryd.func27, Tryd.ntmps27
    go_wp2_with fail
    obtain ⟨W, hW, hB0, b0, b1⟩ := two_start w #[I d0, I d1, I d2] (C9 b t0 t1 t2) 26 32
    rw [hW]
    clear hW
    refine (HC.out _).mono ?_
    rintro e w1 ⟨rfl, hT⟩
    have hB := then_below hB0 hT
    obtain ⟨⟨x0, x1, x2⟩, ⟨x3, x4, x5⟩, _, hz⟩ := b1.nine hT
    clear hT b0 b1 hB0
    go_wp2
    go_ret
    exact ⟨rfl, then_alloc hB _⟩
  · go_enter Tryd.func27, Tryd.ntmps27
    go_wp2_with fail
    obtain ⟨W, hW, hB0, b0, b1⟩ := two_start w #[I d0, I d1, I d2] (C9 b t0 t1 t2) 26 32
    rw [hW]
    clear hW
    refine (HC.out _).mono ?_
    rintro e w1 ⟨rfl, hT⟩
    have hB := then_below hB0 hT
    obtain ⟨⟨x0, x1, x2⟩, ⟨x3, x4, x5⟩, _, hz⟩ := b1.nine hT
    clear hT b0 b1 hB0
    go_wp2
    go_ret
    exact ⟨rfl, then_alloc hB _⟩

set_option maxRecDepth 100000 in
set_option maxHeartbeats 4000000 in
theorem pcheck_same {d0 d1 d2 : Int} {b : Bx} (t0 t1 t2 : Bool) (w : World) (hm : mayD d0 d1 d2) (hb : mayB d0 d1 d2 b) (hs : canonB d0 d1 d2 b = b) :
    Calls Tryd.prog 27 #[A3 d0 d1 d2, P9 b t0 t1 t2] w fun e W' => e = .returned (I (codeOf (!torB b t0 t1 t2))) ∧ Below w.heap.size w W' := by
  have HC : Hid (∀ w, Calls Tryd.prog 39 #[A3 d0 d1 d2, B6 b] w fun e W' => e = .returned (.tuple #[B6 b, I 0]) ∧ Below w.heap.size w W') := fun w => by have := bcanon_ok (b := b) w hm hb; rwa [hs] at this
  clear hs hb hm
  have HY : Hid (torB b t0 t1 t2 = true → codeOf (!torB b t0 t1 t2) = 2) := fun h => by simp [h, codeOf]
  have HN : Hid (torB b t0 t1 t2 = false → codeOf (!torB b t0 t1 t2) = 0) := fun h => by simp [h, codeOf]
  have HT : Hid (torB b t0 t1 t2 = ((t0 && b.a == 1) || (t1 && b.b == 1) || (t2 && b.c == 1))) := rfl
  generalize codeOf (!torB b t0 t1 t2) = er at *
  generalize torB b t0 t1 t2 = tb at *
  go_enter Tryd.func27, Tryd.ntmps27
  go_wp2_with fail
  obtain ⟨W, hW, hB0, b0, b1⟩ := two_start w #[I d0, I d1, I d2] (C9 b t0 t1 t2) 26 32
  rw [hW]
  clear hW
  refine (HC.out _).mono ?_
  rintro e w1 ⟨rfl, hT⟩
  have hB := then_below hB0 hT
  obtain ⟨⟨x0, x1, x2⟩, ⟨x3, x4, x5⟩, ⟨x6, x7, x8⟩, hz⟩ := b1.nine hT
  have hB2 := then_alloc hB (.cells (C6 b) 29)
  clear hT b0 b1 hB0 hB
  go_wp2_with fail
  go_loopw [25] (fun i wr => ((i = .int .i64 0) ∨ (i = .int .i64 1 ∧ Hid ((t0 && b.a == 1) = false)) ∨ (i = .int .i64 2 ∧ Hid ((t0 && b.a == 1) = false) ∧ Hid ((t1 && b.b == 1) = false)) ∨ (i = .int .i64 3 ∧ Hid ((t0 && b.a == 1) = false) ∧ Hid ((t1 && b.b == 1) = false) ∧ Hid ((t2 && b.c == 1) = false))) ∧ wr = w1.alloc (.cells (C6 b) 29)) (fun i _ => 3 - (RowKit.intOf i).toNat)
  case atStart => exact ⟨.inl rfl, rfl⟩
  case round =>
    obtain ⟨hi, rfl⟩ := hrel
    rcases hi with rfl | ⟨rfl, h0⟩ | ⟨rfl, h0, h1⟩ | ⟨rfl, h0, h1, h2⟩
    · cases t0
      · go_wp2
        go_roundw
        case rel => exact ⟨.inr (.inl ⟨rfl, by show _ = _; simp⟩), by trivial⟩
        case measure => simp [RowKit.intOf]
      · cases hq : b.a == 1
        · go_wp2
          go_roundw
          case rel => exact ⟨.inr (.inl ⟨rfl, by show _ = _; simp⟩), by trivial⟩
          case measure => simp [RowKit.intOf]
        · go_wp2
          go_ret
          exact ⟨by rw [HY.out (by rw [HT.out, hq]; simp)]; rfl, hB2⟩
    · cases t1
      · go_wp2
        go_roundw
        case rel => exact ⟨.inr (.inr (.inl ⟨rfl, h0, by show _ = _; simp⟩)), by trivial⟩
        case measure => simp [RowKit.intOf]
      · cases hq : b.b == 1
        · go_wp2
          go_roundw
          case rel => exact ⟨.inr (.inr (.inl ⟨rfl, h0, by show _ = _; simp⟩)), by trivial⟩
          case measure => simp [RowKit.intOf]
        · go_wp2
          go_ret
          exact ⟨by rw [HY.out (by rw [HT.out, hq]; simp)]; rfl, hB2⟩
    · cases t2
      · go_wp2
        go_roundw
        case rel => exact ⟨.inr (.inr (.inr ⟨rfl, h0, h1, by show _ = _; simp⟩)), by trivial⟩
        case measure => simp [RowKit.intOf]
      · cases hq : b.c == 1
        · go_wp2
          go_roundw
          case rel => exact ⟨.inr (.inr (.inr ⟨rfl, h0, h1, by show _ = _; simp⟩)), by trivial⟩
          case measure => simp [RowKit.intOf]
        · go_wp2
          go_ret
          exact ⟨by rw [HY.out (by rw [HT.out, hq]; simp)]; rfl, hB2⟩
    · go_wp2
      go_ret
      exact ⟨by rw [HN.out (by rw [HT.out, h0.out, h1.out, h2.out]; rfl)]; rfl, hB2⟩

/-- Whether a place may be: the document's answer. -/
theorem pcheck_calls (d0 d1 d2 : Int) (b : Bx) (t0 t1 t2 : Bool) (w : World) :
    Calls Tryd.prog 27 #[A3 d0 d1 d2, P9 b t0 t1 t2] w fun e W' => e = .returned (I (errP d0 d1 d2 b t0 t1 t2)) ∧ Below w.heap.size w W' := by
  rcases errB_cases d0 d1 d2 b with ⟨hm, hb, he⟩ | ⟨he, _⟩
  · rw [errP_box t0 t1 t2 hm hb]
    cases hs : sameBx b (canonB d0 d1 d2 b)
    · exact pcheck_not t0 t1 t2 w hm hb hs
    · have := pcheck_same t0 t1 t2 w hm hb ((sameBx_iff _ _).1 hs).symm
      simpa using this
  · have he : (errB d0 d1 d2 b != 0) = true := by rcases he with h | h <;> rw [h] <;> rfl
    rw [errP_err t0 t1 t2 he]
    exact pcheck_err t0 t1 t2 w he

set_option maxRecDepth 100000 in
set_option maxHeartbeats 2000000 in
theorem firstP_calls (b : Bx) (k : Fin 3) (w : World) : Calls Tryd.prog 55 #[B6 b, I (axI k)] w fun e W' => e = .returned (B6 (upB b 1 k)) ∧ Below w.heap.size w W' := by
  rcases fin3 k with rfl | rfl | rfl
  · simp only [axI, upB]
    go_enter Tryd.func55, Tryd.ntmps55
    go_wp2
    obtain ⟨W, hW, hB0, b0, b1⟩ := two_start w #[I b.x, I b.y, I b.z, I 1, I b.b, I b.c] #[I b.x, I b.y, I b.z, I 1, I b.b, I b.c] 29 29
    rw [hW]
    obtain ⟨⟨j0, j1, j2, j3, j4, j5⟩, _⟩ := b1.row6
    exact bodyPost_ret (v := .agg #[I b.x, I b.y, I b.z, I 1, I b.b, I b.c]) (by simp [results, Tryd.f55, go_sem, j0, j1, j2, j3, j4, j5]) rfl ⟨rfl, hB0⟩
  · simp only [axI, upB]
    go_enter Tryd.func55, Tryd.ntmps55
    go_wp2
    obtain ⟨W, hW, hB0, b0, b1⟩ := two_start w #[I b.x, I b.y, I b.z, I b.a, I 1, I b.c] #[I b.x, I b.y, I b.z, I b.a, I 1, I b.c] 29 29
    rw [hW]
    obtain ⟨⟨j0, j1, j2, j3, j4, j5⟩, _⟩ := b1.row6
    exact bodyPost_ret (v := .agg #[I b.x, I b.y, I b.z, I b.a, I 1, I b.c]) (by simp [results, Tryd.f55, go_sem, j0, j1, j2, j3, j4, j5]) rfl ⟨rfl, hB0⟩
  · simp only [axI, upB]
    go_enter Tryd.func55, Tryd.ntmps55
    go_wp2
    obtain ⟨W, hW, hB0, b0, b1⟩ := two_start w #[I b.x, I b.y, I b.z, I b.a, I b.b, I 1] #[I b.x, I b.y, I b.z, I b.a, I b.b, I 1] 29 29
    rw [hW]
    obtain ⟨⟨j0, j1, j2, j3, j4, j5⟩, _⟩ := b1.row6
    exact bodyPost_ret (v := .agg #[I b.x, I b.y, I b.z, I b.a, I b.b, I 1]) (by simp [results, Tryd.f55, go_sem, j0, j1, j2, j3, j4, j5]) rfl ⟨rfl, hB0⟩

end Go.Proofs.YtbedhpooeabehaaDoor

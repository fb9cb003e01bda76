/-
  place.Check and place.first: what each call answers; nothing that lay before is turned.
-/
import Derived.Test.YtbobfhoimhambaaGreatDoorPart19
import Derived.Test.YtbobfhoimhambaaGreatDoorPart7
import Derived.Test.YtbobfhoimhambaaGreatDoorPart2
import Derived.Test.YtbobfhoimhambaaGreatDoorPart9
import Derived.Test.YtbobfhoimhambaaGreatDoorPart17
namespace Go.Proofs.YtbobfhoimhambaaGreatDoor
open Go Go.RowKit Go.Shelf

theorem bx0 (x y z : Bool) (w : World) : (Instr.index 26 (.agg #[.bool x, .bool y, .bool z]) (.int .i64 0)).run Tryz.prog w = .ok (.bool x) w := by kernel_rfl
theorem bx1 (x y z : Bool) (w : World) : (Instr.index 26 (.agg #[.bool x, .bool y, .bool z]) (.int .i64 1)).run Tryz.prog w = .ok (.bool y) w := by kernel_rfl
theorem bx2 (x y z : Bool) (w : World) : (Instr.index 26 (.agg #[.bool x, .bool y, .bool z]) (.int .i64 2)).run Tryz.prog w = .ok (.bool z) w := by kernel_rfl

attribute [local go_sem] Oper.semAt_some ext_const eq_arr eq_arr9 same3_self bx0 bx1 bx2

abbrev C9 (b : Bx) (p q r : Bool) : Array Value := #[I b.x, I b.y, I b.z, I b.a, I b.b, I b.c, .bool p, .bool q, .bool r]
theorem Blk.nine {W W' : World} {B : Nat} {t : TypeId} {b : Bx} {p q r : Bool} (h : Blk W B t (C9 b p q r)) (hb : Below W.heap.size W W') :
    (W'.cell? ⟨B, 0, none⟩ = some (I b.x) ∧ W'.cell? ⟨B, 1, none⟩ = some (I b.y) ∧ W'.cell? ⟨B, 2, none⟩ = some (I b.z)) ∧ (W'.cell? ⟨B, 3, none⟩ = some (I b.a) ∧ W'.cell? ⟨B, 4, none⟩ = some (I b.b) ∧ W'.cell? ⟨B, 5, none⟩ = some (I b.c)) ∧
    (W'.cell? ⟨B, 6, none⟩ = some (.bool p) ∧ W'.cell? ⟨B, 7, none⟩ = some (.bool q) ∧ W'.cell? ⟨B, 8, none⟩ = some (.bool r)) ∧ B < W'.heap.size :=
  ⟨⟨(h.later hb).cell 0, (h.later hb).cell 1, (h.later hb).cell 2⟩, ⟨(h.later hb).cell 3, (h.later hb).cell 4, (h.later hb).cell 5⟩, ⟨(h.later hb).cell 6, (h.later hb).cell 7, (h.later hb).cell 8⟩, (h.later hb).lt⟩

theorem errP_err {d0 d1 d2 : Int} {b : Bx} (t0 t1 t2 : Bool) (he : (errB d0 d1 d2 b != 0) = true) : errP d0 d1 d2 b t0 t1 t2 = errB d0 d1 d2 b := by
  unfold errB at he ⊢
  unfold errP
  cases h1 : okDB d0 d1 d2
  · rfl
  · cases h2 : mayBB d0 d1 d2 b
    · simp [mayPB, h2]
    · simp [h1, h2, codeOf] at he
theorem errP_box {d0 d1 d2 : Int} {b : Bx} (t0 t1 t2 : Bool) (hm : mayD d0 d1 d2) (hb : mayB d0 d1 d2 b) : errP d0 d1 d2 b t0 t1 t2 = codeOf (sameBx b (canonB d0 d1 d2 b) && !torB b t0 t1 t2) := by
  unfold errP mayPB
  rw [(okDB_iff _ _ _).2 hm, (mayBB_iff _ _ _ _).2 hb]
  simp

set_option maxRecDepth 100000 in
set_option maxHeartbeats 2000000 in
theorem pcheck_err {d0 d1 d2 : Int} {b : Bx} (t0 t1 t2 : Bool) (w : World) (he : (errB d0 d1 d2 b != 0) = true) :
    Calls Tryz.prog 10 #[A3 d0 d1 d2, P9 b t0 t1 t2] w fun e W' => e = .returned (I (errB d0 d1 d2 b)) ∧ Below w.heap.size w W' := by
  have HC : Hid (∀ w, Calls Tryz.prog 27 #[A3 d0 d1 d2, B6 b] w fun e W' => e = .returned (.tuple #[B6 ⟨0, 0, 0, 0, 0, 0⟩, I (errB d0 d1 d2 b)]) ∧ Below w.heap.size w W') := fun w => bcanon_err w he
  generalize errB d0 d1 d2 b = er at *
  go_enter Tryz.func10, Tryz.ntmps10
  go_wp2_with fail
  obtain ⟨W, hW, hB0, b0, b1⟩ := two_start w #[I d0, I d1, I d2] (C9 b t0 t1 t2) 23 28
  rw [hW]
  clear hW
  refine (HC.out _).mono ?_
  rintro e w1 ⟨rfl, hT⟩
  have hB := then_below hB0 hT
  clear hT b0 b1
  go_wp2
  go_ret
  exact ⟨rfl, then_alloc hB _⟩

set_option maxRecDepth 100000 in
set_option maxHeartbeats 4000000 in
theorem pcheck_not {d0 d1 d2 : Int} {b : Bx} (t0 t1 t2 : Bool) (w : World) (hm : mayD d0 d1 d2) (hb : mayB d0 d1 d2 b) (hs : sameBx b (canonB d0 d1 d2 b) = false) :
    Calls Tryz.prog 10 #[A3 d0 d1 d2, P9 b t0 t1 t2] w fun e W' => e = .returned (I 2) ∧ Below w.heap.size w W' := by
  have HC : Hid (∀ w, Calls Tryz.prog 27 #[A3 d0 d1 d2, B6 b] w fun e W' => e = .returned (.tuple #[B6 (canonB d0 d1 d2 b), I 0]) ∧ Below w.heap.size w W') := fun w => bcanon_ok w hm hb
  generalize canonB d0 d1 d2 b = c at *
  have hs : same3 b.x b.y b.z c.x c.y c.z = false ∨ (same3 b.x b.y b.z c.x c.y c.z = true ∧ same3 b.a b.b b.c c.a c.b c.c = false) := by
    unfold sameBx at hs
    cases h1 : same3 b.x b.y b.z c.x c.y c.z
    · exact .inl rfl
    · rw [h1, Bool.true_and] at hs
      exact .inr ⟨rfl, hs⟩
  rcases hs with h1 | ⟨h1, h2⟩
  · go_enter Tryz.func10, Tryz.ntmps10
    go_wp2_with fail
    obtain ⟨W, hW, hB0, b0, b1⟩ := two_start w #[I d0, I d1, I d2] (C9 b t0 t1 t2) 23 28
    rw [hW]
    clear hW
    refine (HC.out _).mono ?_
    rintro e w1 ⟨rfl, hT⟩
    have hB := then_below hB0 hT
    obtain ⟨⟨x0, x1, x2⟩, ⟨x3, x4, x5⟩, _, hz⟩ := b1.nine hT
    clear hT b0 b1 hB0
    go_wp2
    go_ret
    exact ⟨rfl, then_alloc hB _⟩
  · go_enter Tryz.func10, Tryz.ntmps10
    go_wp2_with fail
    obtain ⟨W, hW, hB0, b0, b1⟩ := two_start w #[I d0, I d1, I d2] (C9 b t0 t1 t2) 23 28
    rw [hW]
    clear hW
    refine (HC.out _).mono ?_
    rintro e w1 ⟨rfl, hT⟩
    have hB := then_below hB0 hT
    obtain ⟨⟨x0, x1, x2⟩, ⟨x3, x4, x5⟩, _, hz⟩ := b1.nine hT
    clear hT b0 b1 hB0
    go_wp2
    go_ret
    exact ⟨rfl, then_alloc hB _⟩

set_option maxRecDepth 100000 in
set_option maxHeartbeats 4000000 in
theorem pcheck_same {d0 d1 d2 : Int} {b : Bx} (t0 t1 t2 : Bool) (w : World) (hm : mayD d0 d1 d2) (hb : mayB d0 d1 d2 b) (hs : canonB d0 d1 d2 b = b) :
    Calls Tryz.prog 10 #[A3 d0 d1 d2, P9 b t0 t1 t2] w fun e W' => e = .returned (I (codeOf (!torB b t0 t1 t2))) ∧ Below w.heap.size w W' := by
  have HC : Hid (∀ w, Calls Tryz.prog 27 #[A3 d0 d1 d2, B6 b] w fun e W' => e = .returned (.tuple #[B6 b, I 0]) ∧ Below w.heap.size w W') := fun w => by have := bcanon_ok (b := b) w hm hb; rwa [hs] at this
  clear hs hb hm
  have HY : Hid (torB b t0 t1 t2 = true → codeOf (!torB b t0 t1 t2) = 2) := fun h => by simp [h, codeOf]
  have HN : Hid (torB b t0 t1 t2 = false → codeOf (!torB b t0 t1 t2) = 0) := fun h => by simp [h, codeOf]
  have HT : Hid (torB b t0 t1 t2 = ((t0 && b.a == 1) || (t1 && b.b == 1) || (t2 && b.c == 1))) := rfl
  generalize codeOf (!torB b t0 t1 t2) = er at *
  generalize torB b t0 t1 t2 = tb at *
  go_enter Tryz.func10, Tryz.ntmps10
  go_wp2_with fail
  obtain ⟨W, hW, hB0, b0, b1⟩ := two_start w #[I d0, I d1, I d2] (C9 b t0 t1 t2) 23 28
  rw [hW]
  clear hW
  refine (HC.out _).mono ?_
  rintro e w1 ⟨rfl, hT⟩
  have hB := then_below hB0 hT
  obtain ⟨⟨x0, x1, x2⟩, ⟨x3, x4, x5⟩, ⟨x6, x7, x8⟩, hz⟩ := b1.nine hT
  have hB2 := then_alloc hB (.cells (C6 b) 25)
  clear hT b0 b1 hB0 hB
  go_wp2_with fail
  go_loopw [25] (fun i wr => ((i = .int .i64 0) ∨ (i = .int .i64 1 ∧ Hid ((t0 && b.a == 1) = false)) ∨ (i = .int .i64 2 ∧ Hid ((t0 && b.a == 1) = false) ∧ Hid ((t1 && b.b == 1) = false)) ∨ (i = .int .i64 3 ∧ Hid ((t0 && b.a == 1) = false) ∧ Hid ((t1 && b.b == 1) = false) ∧ Hid ((t2 && b.c == 1) = false))) ∧ wr = w1.alloc (.cells (C6 b) 25)) (fun i _ => 3 - (intOf i).toNat)
  case atStart => exact ⟨.inl rfl, rfl⟩
  case round =>
    obtain ⟨hi, rfl⟩ := hrel
    rcases hi with rfl | ⟨rfl, h0⟩ | ⟨rfl, h0, h1⟩ | ⟨rfl, h0, h1, h2⟩
    · cases t0
      · go_wp2
        go_roundw
        case rel => exact ⟨.inr (.inl ⟨rfl, by show _ = _; simp⟩), by trivial⟩
        case measure => simp [intOf]
      · cases hq : b.a == 1
        · go_wp2
          go_roundw
          case rel => exact ⟨.inr (.inl ⟨rfl, by show _ = _; simp⟩), by trivial⟩
          case measure => simp [intOf]
        · go_wp2
          go_ret
          exact ⟨by rw [HY.out (by rw [HT.out, hq]; simp)]; rfl, hB2⟩
    · cases t1
      · go_wp2
        go_roundw
        case rel => exact ⟨.inr (.inr (.inl ⟨rfl, h0, by show _ = _; simp⟩)), by trivial⟩
        case measure => simp [intOf]
      · cases hq : b.b == 1
        · go_wp2
          go_roundw
          case rel => exact ⟨.inr (.inr (.inl ⟨rfl, h0, by show _ = _; simp⟩)), by trivial⟩
          case measure => simp [intOf]
        · go_wp2
          go_ret
          exact ⟨by rw [HY.out (by rw [HT.out, hq]; simp)]; rfl, hB2⟩
    · cases t2
      · go_wp2
        go_roundw
        case rel => exact ⟨.inr (.inr (.inr ⟨rfl, h0, h1, by show _ = _; simp⟩)), by trivial⟩
        case measure => simp [intOf]
      · cases hq : b.c == 1
        · go_wp2
          go_roundw
          case rel => exact ⟨.inr (.inr (.inr ⟨rfl, h0, h1, by show _ = _; simp⟩)), by trivial⟩
          case measure => simp [intOf]
        · go_wp2
          go_ret
          exact ⟨by rw [HY.out (by rw [HT.out, hq]; simp)]; rfl, hB2⟩
    · go_wp2
      go_ret
      exact ⟨by rw [HN.out (by rw [HT.out, h0.out, h1.out, h2.out]; rfl)]; rfl, hB2⟩

/-- Whether a place may be: the document's answer. -/
theorem pcheck_calls (d0 d1 d2 : Int) (b : Bx) (t0 t1 t2 : Bool) (w : World) :
    Calls Tryz.prog 10 #[A3 d0 d1 d2, P9 b t0 t1 t2] w fun e W' => e = .returned (I (errP d0 d1 d2 b t0 t1 t2)) ∧ Below w.heap.size w W' := by
  rcases errB_cases d0 d1 d2 b with ⟨hm, hb, he⟩ | ⟨he, _⟩
  · rw [errP_box t0 t1 t2 hm hb]
    cases hs : sameBx b (canonB d0 d1 d2 b)
    · exact pcheck_not t0 t1 t2 w hm hb hs
    · have := pcheck_same t0 t1 t2 w hm hb ((sameBx_iff _ _).1 hs).symm
      simpa using this
  · have he : (errB d0 d1 d2 b != 0) = true := by rcases he with h | h <;> rw [h] <;> rfl
    rw [errP_err t0 t1 t2 he]
    exact pcheck_err t0 t1 t2 w he

set_option maxRecDepth 100000 in
set_option maxHeartbeats 2000000 in
theorem first_calls (b : Bx) (k : Fin 3) (w : World) : Calls Tryz.prog 58 #[B6 b, I (axI k)] w fun e W' => e = .returned (B6 (upB b 1 k)) ∧ Below w.heap.size w W' := by
  rcases fin3 k with rfl | rfl | rfl
  · simp only [axI, upB]
    go_enter Tryz.func58, Tryz.ntmps58
    go_wp2
    obtain ⟨W, hW, hB0, b0, b1⟩ := two_start w #[I b.x, I b.y, I b.z, I 1, I b.b, I b.c] #[I b.x, I b.y, I b.z, I 1, I b.b, I b.c] 25 25
    rw [hW]
    obtain ⟨⟨j0, j1, j2, j3, j4, j5⟩, _⟩ := b1.row6
    exact bodyPost_ret (v := .agg #[I b.x, I b.y, I b.z, I 1, I b.b, I b.c]) (by simp [results, Tryz.f58, go_sem, j0, j1, j2, j3, j4, j5]) rfl ⟨rfl, hB0⟩
  · simp only [axI, upB]
    go_enter Tryz.func58, Tryz.ntmps58
    go_wp2
    obtain ⟨W, hW, hB0, b0, b1⟩ := two_start w #[I b.x, I b.y, I b.z, I b.a, I 1, I b.c] #[I b.x, I b.y, I b.z, I b.a, I 1, I b.c] 25 25
    rw [hW]
    obtain ⟨⟨j0, j1, j2, j3, j4, j5⟩, _⟩ := b1.row6
    exact bodyPost_ret (v := .agg #[I b.x, I b.y, I b.z, I b.a, I 1, I b.c]) (by simp [results, Tryz.f58, go_sem, j0, j1, j2, j3, j4, j5]) rfl ⟨rfl, hB0⟩
  · simp only [axI, upB]
    go_enter Tryz.func58, Tryz.ntmps58
    go_wp2
    obtain ⟨W, hW, hB0, b0, b1⟩ := two_start w #[I b.x, I b.y, I b.z, I b.a, I b.b, I 1] #[I b.x, I b.y, I b.z, I b.a, I b.b, I 1] 25 25
    rw [hW]
    obtain ⟨⟨j0, j1, j2, j3, j4, j5⟩, _⟩ := b1.row6
    exact bodyPost_ret (v := .agg #[I b.x, I b.y, I b.z, I b.a, I b.b, I 1]) (by simp [results, Tryz.f58, go_sem, j0, j1, j2, j3, j4, j5]) rfl ⟨rfl, hB0⟩

end Go.Proofs.YtbobfhoimhambaaGreatDoor

/-
  box.Nodes: a box's midplanes, rising, in new memory.
-/
namespace Go.Proofs.YtbobfhoimhambaaGreatDoor
open Go.RowKit Go.Shelf

attribute [local go_sem] Oper.semAt_some ext_const

set_option maxHeartbeats 1000000 in
theorem bnodes_err {d0 d1 d2 : Int} {b : Bx} (w : World) (he : (errB d0 d1 d2 b != 0) = true) :
    Calls Tryz.prog 30 #[A3 d0 d1 d2, B6 b] w fun e W' => e = .returned (.tuple #[.slice none 0 0, I (errB d0 d1 d2 b)]) ∧ Below w.heap.size w W' := by
  go_enter Tryz.func30, Tryz.ntmps30
  go_wp2_with fail
  obtain ⟨W, hW, hs, hB0, b0, b1, b2⟩ := three_start w #[I d0, I d1, I d2] (C6 b) (C6 b) 23 25 25
  rw [hW]
  clear hW
  refine (chk1 _ _ b2).mono ?_
  rintro e w1 ⟨rfl, hB⟩
  go_wp2
  go_ret2
  exact ⟨rfl, then_below hB0 hB⟩

/-- What each operation of the statement that makes the three lists keeps. -/
def wordN (d0 d1 d2 : Int) (b : Bx) (base : Nat) (X Y Z : List Int) (i : Nat) (v : Value) (w : World) : Prop :=
  match i with
  | 0 => v = A3 d0 d1 d2
  | 1 => v = B6 b
  | 2 => v = A3 d0 b.x b.a
  | 3 => Lst w base v X
  | 4 => v = A3 d0 d1 d2
  | 5 => v = B6 b
  | 6 => v = A3 d1 b.y b.b
  | 7 => Lst w base v Y
  | 8 => v = A3 d0 d1 d2
  | 9 => v = B6 b
  | 10 => v = A3 d2 b.z b.c
  | 11 => Lst w base v Z
  | 12 => Lst w base v X
  | 13 => Lst w base v Y
  | 14 => Lst w base v Z
  | _ => False
theorem wordN_later {d0 d1 d2 : Int} {b : Bx} {base : Nat} {X Y Z : List Int} (i : Nat) (v : Value) (w w' : World) (h : wordN d0 d1 d2 b base X Y Z i v w) (hB : Below w.heap.size w w') : wordN d0 d1 d2 b base X Y Z i v w' := by
  match i, h with
  | 0, h => exact h
  | 1, h => exact h
  | 2, h => exact h
  | 3, h => exact h.later hB
  | 4, h => exact h
  | 5, h => exact h
  | 6, h => exact h
  | 7, h => exact h.later hB
  | 8, h => exact h
  | 9, h => exact h
  | 10, h => exact h
  | 11, h => exact h.later hB
  | 12, h => exact h.later hB
  | 13, h => exact h.later hB
  | 14, h => exact h.later hB
  | n + 15, h => exact h.elim

set_option maxRecDepth 100000 in
set_option maxHeartbeats 4000000 in
theorem bnodes_ok {d0 d1 d2 : Int} {b : Bx} (w : World) (hm : mayD d0 d1 d2) (hb : mayB d0 d1 d2 b) :
    Calls Tryz.prog 30 #[A3 d0 d1 d2, B6 b] w fun e W' => ∃ v, e = .returned (.tuple #[v, I 0]) ∧ Lst W' w.heap.size v (nodesB d0 d1 d2 b) ∧ Below w.heap.size w W' := by
  have H0 : Hid (errB d0 d1 d2 b = 0) := errB_ok hm hb
  have hmx : Tryz.prog.follows .mixedOrders = true := by kernel_rfl
  have HM : Hid (mayD d0 d1 d2) := hm
  have HB : Hid (mayB d0 d1 d2 b) := hb
  have HT : Hid (eqO d0 d1 (coordsS d0 b.x b.a) (coordsS d1 b.y b.b) (coordsS d2 b.z b.c) (nodesB d0 d1 d2 b) [] 0) := nodesB_flat hm
  have hlen : (nodesB d0 d1 d2 b).length ≤ 4096 := nodesB_len hm b
  have hm' := hm
  obtain ⟨⟨g0, g1⟩, ⟨g2, g3⟩, g4, g5⟩ := hm'
  have lX : (coordsS d0 b.x b.a).length ≤ 16 := coordsS_len g1
  have lY : (coordsS d1 b.y b.b).length ≤ 16 := coordsS_len g3
  have lZ : (coordsS d2 b.z b.c).length ≤ 16 := coordsS_len g5
  have HX : Hid (∀ k : Nat, k < (coordsS d0 b.x b.a).length → 0 ≤ (coordsS d0 b.x b.a).getD k 0 ∧ (coordsS d0 b.x b.a).getD k 0 < d0) := fun k hk => coordsS_get (by omega) hk
  have HY : Hid (∀ k : Nat, k < (coordsS d1 b.y b.b).length → 0 ≤ (coordsS d1 b.y b.b).getD k 0 ∧ (coordsS d1 b.y b.b).getD k 0 < d1) := fun k hk => coordsS_get (by omega) hk
  have HZ : Hid (∀ k : Nat, k < (coordsS d2 b.z b.c).length → 0 ≤ (coordsS d2 b.z b.c).getD k 0 ∧ (coordsS d2 b.z b.c).getD k 0 < d2) := fun k hk => coordsS_get (by omega) hk
  have KX : Hid (∀ w : World, Calls Tryz.prog 53 #[A3 d0 b.x b.a] w fun e W' => ∃ v, e = .returned v ∧ Lst W' w.heap.size v (coordsS d0 b.x b.a) ∧ Below w.heap.size w W') := fun w => coords_calls w HM.out.1.2 HB.out.1
  have KY : Hid (∀ w : World, Calls Tryz.prog 53 #[A3 d1 b.y b.b] w fun e W' => ∃ v, e = .returned v ∧ Lst W' w.heap.size v (coordsS d1 b.y b.b) ∧ Below w.heap.size w W') := fun w => coords_calls w HM.out.2.1.2 HB.out.2.1
  have KZ : Hid (∀ w : World, Calls Tryz.prog 53 #[A3 d2 b.z b.c] w fun e W' => ∃ v, e = .returned v ∧ Lst W' w.heap.size v (coordsS d2 b.z b.c) ∧ Below w.heap.size w W') := fun w => coords_calls w HM.out.2.2.2 HB.out.2.2
  obtain ⟨z0, z1, z2⟩ := sizes_bd hm hb
  have KM : Hid (∀ w : World, Calls Tryz.prog 54 #[B6 b] w fun e W' => e = .returned (I (manyB b)) ∧ Below w.heap.size w W') := fun w => bmany_calls w z0 z1 z2
  have hmb : 0 ≤ manyB b ∧ manyB b ≤ 16 * 16 * 16 := by
    have p1 : 0 ≤ b.a * b.b ∧ b.a * b.b ≤ 16 * 16 := mul_bd (by omega) z0.2 (by omega) z1.2
    exact mul_bd p1.1 p1.2 (by omega) z2.2
  obtain ⟨hmb0, hmb1⟩ := hmb
  generalize manyB b = M at KM hmb0 hmb1
  clear z0 z1 z2
  generalize coordsS d0 b.x b.a = X at HT lX HX KX
  generalize coordsS d1 b.y b.b = Y at HT lY HY KY
  generalize coordsS d2 b.z b.c = Z at HT lZ HZ KZ
  generalize nodesB d0 d1 d2 b = T at HT hlen ⊢
  go_enter Tryz.func30, Tryz.ntmps30
  go_wp2_with fail
  obtain ⟨W, hW, hs, hB0, b0, b1, b2⟩ := three_start w #[I d0, I d1, I d2] (C6 b) (C6 b) 23 25 25
  rw [hW]
  clear hW
  refine (chk1 _ _ b2).mono ?_
  rintro e w1 ⟨rfl, hT⟩
  rw [H0.out]
  have q0 := b0.later hT
  have q1 := b1.later hT
  have hB1 := then_below hB0 hT
  clear b0 b1 b2 hT hB0
  go_wp2_with fail
  refine wp_region_loud (w0 := w1) (wordN d0 d1 d2 b w1.heap.size X Y Z) hmx (by kernel_rfl) wordN_later ?_ ?_
  · intro i o hi a w' hT hL hpre
    have t2 : a.tmps.getD 2 undef = .pointer (some ⟨w.heap.size, 0, none⟩) := by
      rw [Array.getD_eq_getD_getElem?, hL.out 2 (of_decide_eq_true (by kernel_rfl))]; rfl
    have t3 : a.tmps.getD 3 undef = .pointer (some ⟨w.heap.size + 1, 0, none⟩) := by
      rw [Array.getD_eq_getD_getElem?, hL.out 3 (of_decide_eq_true (by kernel_rfl))]; rfl
    obtain ⟨c0, c1, c2, hz⟩ := q0.three hT
    obtain ⟨⟨k0, k1, k2⟩, ⟨k3, k4, k5⟩, hz1⟩ := q1.six hT
    clear hL
    match i, hi with
    | 0, hi =>
      obtain rfl := Option.some.inj hi
      refine .inl ⟨A3 d0 d1 d2, ?_, rfl⟩
      simp [execOp, go_sem, Act.eval, t2, c0, c1, c2]
    | 1, hi =>
      obtain rfl := Option.some.inj hi
      refine .inl ⟨B6 b, ?_, rfl⟩
      simp [execOp, go_sem, Act.eval, t3, k0, k1, k2, k3, k4, k5]
    | 2, hi =>
      obtain rfl := Option.some.inj hi
      have p0 : a.tmps.getD 26 undef = A3 d0 d1 d2 := hpre ⟨0, .data⟩ (by simp) rfl
      have p1 : a.tmps.getD 27 undef = B6 b := hpre ⟨1, .data⟩ (by simp) rfl
      refine .inr ⟨52, #[A3 d0 d1 d2, B6 b, I 0], ?_, ?_⟩
      · simp [go_sem, Act.eval, p0, p1]
      · refine (side_calls d0 d1 d2 b 0 w').mono ?_
        rintro e w'' ⟨rfl, hB⟩
        exact ⟨_, rfl, hB, rfl⟩
    | 3, hi =>
      obtain rfl := Option.some.inj hi
      have p0 : a.tmps.getD 28 undef = A3 d0 b.x b.a := hpre ⟨2, .data⟩ (by simp) rfl
      refine .inr ⟨53, #[A3 d0 b.x b.a], ?_, ?_⟩
      · simp [go_sem, Act.eval, p0]
      · refine (KX.out w').mono ?_
        rintro e w'' ⟨v, rfl, hl, hB⟩
        exact ⟨_, rfl, hB, hl.weak hT.size⟩
    | 4, hi =>
      obtain rfl := Option.some.inj hi
      refine .inl ⟨A3 d0 d1 d2, ?_, rfl⟩
      simp [execOp, go_sem, Act.eval, t2, c0, c1, c2]
    | 5, hi =>
      obtain rfl := Option.some.inj hi
      refine .inl ⟨B6 b, ?_, rfl⟩
      simp [execOp, go_sem, Act.eval, t3, k0, k1, k2, k3, k4, k5]
    | 6, hi =>
      obtain rfl := Option.some.inj hi
      have p0 : a.tmps.getD 30 undef = A3 d0 d1 d2 := hpre ⟨4, .data⟩ (by simp) rfl
      have p1 : a.tmps.getD 31 undef = B6 b := hpre ⟨5, .data⟩ (by simp) rfl
      refine .inr ⟨52, #[A3 d0 d1 d2, B6 b, I 1], ?_, ?_⟩
      · simp [go_sem, Act.eval, p0, p1]
      · refine (side_calls d0 d1 d2 b 1 w').mono ?_
        rintro e w'' ⟨rfl, hB⟩
        exact ⟨_, rfl, hB, rfl⟩
    | 7, hi =>
      obtain rfl := Option.some.inj hi
      have p0 : a.tmps.getD 32 undef = A3 d1 b.y b.b := hpre ⟨6, .data⟩ (by simp) rfl
      refine .inr ⟨53, #[A3 d1 b.y b.b], ?_, ?_⟩
      · simp [go_sem, Act.eval, p0]
      · refine (KY.out w').mono ?_
        rintro e w'' ⟨v, rfl, hl, hB⟩
        exact ⟨_, rfl, hB, hl.weak hT.size⟩
    | 8, hi =>
      obtain rfl := Option.some.inj hi
      refine .inl ⟨A3 d0 d1 d2, ?_, rfl⟩
      simp [execOp, go_sem, Act.eval, t2, c0, c1, c2]
    | 9, hi =>
      obtain rfl := Option.some.inj hi
      refine .inl ⟨B6 b, ?_, rfl⟩
      simp [execOp, go_sem, Act.eval, t3, k0, k1, k2, k3, k4, k5]
    | 10, hi =>
      obtain rfl := Option.some.inj hi
      have p0 : a.tmps.getD 34 undef = A3 d0 d1 d2 := hpre ⟨8, .data⟩ (by simp) rfl
      have p1 : a.tmps.getD 35 undef = B6 b := hpre ⟨9, .data⟩ (by simp) rfl
      refine .inr ⟨52, #[A3 d0 d1 d2, B6 b, I 2], ?_, ?_⟩
      · simp [go_sem, Act.eval, p0, p1]
      · refine (side_calls d0 d1 d2 b 2 w').mono ?_
        rintro e w'' ⟨rfl, hB⟩
        exact ⟨_, rfl, hB, rfl⟩
    | 11, hi =>
      obtain rfl := Option.some.inj hi
      have p0 : a.tmps.getD 36 undef = A3 d2 b.z b.c := hpre ⟨10, .data⟩ (by simp) rfl
      refine .inr ⟨53, #[A3 d2 b.z b.c], ?_, ?_⟩
      · simp [go_sem, Act.eval, p0]
      · refine (KZ.out w').mono ?_
        rintro e w'' ⟨v, rfl, hl, hB⟩
        exact ⟨_, rfl, hB, hl.weak hT.size⟩
    | 12, hi =>
      obtain rfl := Option.some.inj hi
      have p0 : Lst w' w1.heap.size (a.tmps.getD 29 undef) _ := hpre ⟨3, .data⟩ (by simp) rfl
      refine .inl ⟨a.tmps.getD 29 undef, ?_, p0⟩
      simp [execOp, go_sem, Act.eval]
    | 13, hi =>
      obtain rfl := Option.some.inj hi
      have p0 : Lst w' w1.heap.size (a.tmps.getD 33 undef) _ := hpre ⟨7, .data⟩ (by simp) rfl
      refine .inl ⟨a.tmps.getD 33 undef, ?_, p0⟩
      simp [execOp, go_sem, Act.eval]
    | 14, hi =>
      obtain rfl := Option.some.inj hi
      have p0 : Lst w' w1.heap.size (a.tmps.getD 37 undef) _ := hpre ⟨11, .data⟩ (by simp) rfl
      refine .inl ⟨a.tmps.getD 37 undef, ?_, p0⟩
      simp [execOp, go_sem, Act.eval]
    | n + 15, hi => simp at hi
  · intro v w' hT hall
    have hX : Lst w' w1.heap.size (v 12) X := hall 12 (of_decide_eq_true (by kernel_rfl))
    have hY : Lst w' w1.heap.size (v 13) Y := hall 13 (of_decide_eq_true (by kernel_rfl))
    have hZ : Lst w' w1.heap.size (v 14) Z := hall 14 (of_decide_eq_true (by kernel_rfl))
    clear hall
    obtain ⟨aX, cX, eX, vX⟩ := hX.view
    obtain ⟨aY, cY, eY, vY⟩ := hY.view
    obtain ⟨aZ, cZ, eZ, vZ⟩ := hZ.view
    have VX : Hid (∀ k : Nat, k < X.length → ∃ g cur, aX = some ⟨g, 0, none⟩ ∧ Blk w' g 3 cur ∧ cur[k]? = some (I (X.getD k 0))) := vX
    have VY : Hid (∀ k : Nat, k < Y.length → ∃ g cur, aY = some ⟨g, 0, none⟩ ∧ Blk w' g 3 cur ∧ cur[k]? = some (I (Y.getD k 0))) := vY
    have VZ : Hid (∀ k : Nat, k < Z.length → ∃ g cur, aZ = some ⟨g, 0, none⟩ ∧ Blk w' g 3 cur ∧ cur[k]? = some (I (Z.getD k 0))) := vZ
    clear hX hY hZ vX vY vZ KX KY KZ
    have q0 := q0.later hT
    have q1 := q1.later hT
    have hB1 := then_below hB1 hT
    clear hT
    simp only [List.length_cons, List.length_nil, Nat.zero_add, Nat.reduceAdd, List.range, List.range.loop, List.foldl_cons, List.foldl_nil, dstOf, List.getElem?_cons_zero, List.getElem?_cons_succ, Option.getD_some, Act.put, eX, eY, eZ]
    obtain ⟨⟨k0, k1, k2⟩, ⟨k3, k4, k5⟩, hz1⟩ := q1.six (Below.refl _ _)
    clear eX eY eZ
    generalize v 0 = v0
    generalize v 1 = v1
    generalize v 2 = v2
    generalize v 4 = v4
    generalize v 5 = v5
    generalize v 6 = v6
    generalize v 8 = v8
    generalize v 9 = v9
    generalize v 10 = v10
    generalize v 3 = v3
    generalize v 7 = v7
    generalize v 11 = v11
    clear v
    go_wp2_with fail
    refine (KM.out _).mono ?_
    rintro e w2 ⟨rfl, hT2⟩
    clear k0 k1 k2 k3 k4 k5 hz1
    go_wp2_with (at_make; refine wpList_mk (base := w'.heap.size) rfl _ _ rfl M rfl rfl hmb0 (by omega) hT2.size ?_; intro vL w3 hL3 hT3)
    have hT3 := hT2.trans hT3
    clear hT2
    go_loopw [10, 43] (fun v i wr => ∃ (I' : Nat) (L : List Int), I' ≤ Z.length ∧ i = .int .i64 I' ∧ Lst wr w'.heap.size v L ∧ eqO d0 d1 X Y Z T L I' ∧ Below w'.heap.size w' wr) (fun _ i _ => Z.length - (intOf i).toNat)
    case atStart => exact ⟨0, [], by omega, rfl, hL3, HT.out, hT3⟩
    case round =>
      clear hL3 hT3
      obtain ⟨i, L, hi, rfl, hL, hE, hT⟩ := hrel
      by_cases hlt : (i : Int) < (Z.length : Int)
      · obtain ⟨g, cur, rfl, hg, hc⟩ := VZ.out i (by omega)
        have c0 := (hg.later hT).cell i
        rw [hc] at c0
        clear hg hc
        have EM := eqO_in (by omega) hE
        have RZ : Hid (0 ≤ Z.getD i 0 ∧ Z.getD i 0 < d2) := HZ.out i (by omega)
        clear hE
        obtain ⟨z, hz⟩ : ∃ z, z = Z.getD i 0 := ⟨_, rfl⟩
        rw [← hz] at c0 RZ
        have HZz : Hid (z = Z.getD i 0) := hz
        clear hz
        go_wp2
        go_loopw [10, 49] (fun v j wr => ∃ (J : Nat) (L : List Int), J ≤ Y.length ∧ j = .int .i64 J ∧ Lst wr w'.heap.size v L ∧ eqM d0 d1 X Y Z T L i J ∧ Below w'.heap.size w' wr) (fun _ j _ => Y.length - (intOf j).toNat)
        case atStart => exact ⟨0, L, by omega, rfl, hL, EM, hT⟩
        case round =>
          clear hL hT EM c0
          obtain ⟨j, L, hj, rfl, hL, hE, hT⟩ := hrel
          by_cases hlt : (j : Int) < (Y.length : Int)
          · obtain ⟨g', cur', rfl, hg', hc'⟩ := VY.out j (by omega)
            have c0 := (hg'.later hT).cell j
            rw [hc'] at c0
            clear hg' hc'
            have EI := eqM_in (by omega) hE
            have RY : Hid (0 ≤ Y.getD j 0 ∧ Y.getD j 0 < d1) := HY.out j (by omega)
            clear hE
            obtain ⟨y, hy⟩ : ∃ y, y = Y.getD j 0 := ⟨_, rfl⟩
            rw [← hy] at c0 RY
            have HYy : Hid (y = Y.getD j 0) := hy
            clear hy
            go_wp2
            go_loopw [10, 55] (fun v k wr => ∃ (K : Nat) (L : List Int), K ≤ X.length ∧ k = .int .i64 K ∧ Lst wr w'.heap.size v L ∧ eqI d0 d1 X Y Z T L i j K ∧ Below w'.heap.size w' wr) (fun _ k _ => X.length - (intOf k).toNat)
            case atStart => exact ⟨0, L, by omega, rfl, hL, EI, hT⟩
            case round =>
              clear hL hT EI c0
              obtain ⟨k, L, hk, rfl, hL, hE, hT⟩ := hrel
              by_cases hlt : (k : Int) < (X.length : Int)
              · obtain ⟨g'', cur'', rfl, hg'', hc''⟩ := VX.out k (by omega)
                have c0 := (hg''.later hT).cell k
                rw [hc''] at c0
                clear hg'' hc''
                obtain ⟨d0', d1', d2', hz⟩ := q0.three hT
                have RX : Hid (0 ≤ X.getD k 0 ∧ X.getD k 0 < d0) := HX.out k (by omega)
                have hll : L.length ≤ 100000 := by have := eqI_len hE; omega
                have EI := eqI_step (by omega) hE
                rw [← HYy.out, ← HZz.out] at EI
                clear hE
                generalize X.getD k 0 = x at c0 RX EI
                have KA : Hid (∀ w : World, Calls Tryz.prog 55 #[A3 d0 d1 d2, A3 x y z] w fun e W' => e = .returned (.tuple #[I (numD d0 d1 x y z), I 0]) ∧ Below w.heap.size w W') := fun w => at_yes w HM.out ⟨RX.out, RY.out, RZ.out⟩
                generalize numD d0 d1 x y z = N at KA EI
                go_wp2_with fail
                refine (KA.out _).mono ?_
                rintro e w4 ⟨rfl, hB4⟩
                have hL := hL.later hB4
                have hT := then_below hT hB4
                clear hB4 c0 d0' d1' d2' hz
                go_wp2_with (at_builtin; refine wpList_app rfl _ _ rfl rfl rfl hL hll hT.size ?_; intro v' w5 hL5 hT5)
                have hT := hT.trans hT5
                clear hT5 hL
                go_roundw
                case rel => exact ⟨k + 1, _, by omega, by go_num, hL5, EI, hT⟩
                case measure => simp [intOf]; omega
              · have EO := eqI_out (by omega) hE
                clear hE
                go_wp2
                go_roundw
                case rel => exact ⟨j + 1, L, by omega, by go_num, hL, EO, hT⟩
                case measure => simp [intOf]; omega
          · have EO := eqM_out (by omega) hE
            clear hE
            go_wp2
            go_roundw
            case rel => exact ⟨i + 1, L, by omega, by go_num, hL, EO, hT⟩
            case measure => simp [intOf]; omega
      · have E := eqO_out (by omega) hE
        subst E
        have hL' := hL.weak hB1.size
        clear hL hE
        go_wp2
        go_ret2
        exact ⟨_, rfl, hL', then_below hB1 hT⟩

end Go.Proofs.YtbobfhoimhambaaGreatDoor

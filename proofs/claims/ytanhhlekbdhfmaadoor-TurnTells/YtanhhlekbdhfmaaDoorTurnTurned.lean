/-
  turn.turned: what is asked for, by one of the six orders of the axes.
-/
import Derived.Test.YtanhhlekbdhfmaaDoorTurnSmall
namespace Go.Proofs.YtanhhlekbdhfmaaDoor
open Go Go.RowKit Go.Shelf

attribute [local go_sem] Oper.semAt_some ext_const eq_ints_at eq_bools_at eq_wants ix0 ix1 ix2

/-- The six orders, as the program lists them. -/
def ord : Nat → Nat × Nat × Nat
  | 0 => (0, 1, 2) | 1 => (0, 2, 1) | 2 => (1, 0, 2) | 3 => (1, 2, 0) | 4 => (2, 0, 1) | _ => (2, 1, 0)
def selI : Wt → Nat → Int
  | (x, _, _, _), 0 => x | (_, y, _, _), 1 => y | (_, _, z, _), _ => z
def selB : Wt → Nat → Bool
  | (_, _, _, p, _), 0 => p | (_, _, _, _, q, _), 1 => q | (_, _, _, _, _, r, _), _ => r
def byOrd (w : Wt) (n : Nat) : Wt := (selI w (ord n).1, selI w (ord n).2.1, selI w (ord n).2.2, selB w (ord n).1, selB w (ord n).2.1, selB w (ord n).2.2, turnT w)

structure Mid (w : World) (u v : Array Value) (W : World) : Prop where
  src : Blk W w.heap.size 29 u
  res : Blk W (w.heap.size + 1 + 1) 29 (cells7 0 0 0 false false false false)
  dst : Blk W (w.heap.size + 1 + 1 + 1) 29 v
  below : Below w.heap.size w W

theorem Mid.set {w W : World} {u v : Array Value} (h : Mid w u v W) (i : Nat) (x : Value) : Mid w u (v.setIfInBounds i x) (W.setCell ⟨w.heap.size + 1 + 1 + 1, i, none⟩ x) :=
  ⟨h.src.other i x (by omega), h.res.other i x (by omega), h.dst.set i x, h.below.setCell (p := ⟨w.heap.size + 1 + 1 + 1, i, none⟩) (by show w.heap.size ≤ w.heap.size + 1 + 1 + 1; omega) x⟩
theorem Mid.start (w : World) (u o : Array Value) : Mid w u u ((((w.alloc (.cells u 29)).alloc (.cells o 26)).alloc (.cells (cells7 0 0 0 false false false false) 29)).alloc (.cells u 29)) := by
  have e1 : (w.alloc (.cells u 29)).heap.size = w.heap.size + 1 := by simp
  have e2 : ((w.alloc (.cells u 29)).alloc (.cells o 26)).heap.size = w.heap.size + 1 + 1 := by simp
  have e3 : (((w.alloc (.cells u 29)).alloc (.cells o 26)).alloc (.cells (cells7 0 0 0 false false false false) 29)).heap.size = w.heap.size + 1 + 1 + 1 := by simp
  refine ⟨(((Blk.new w _ u).alloc _).alloc _).alloc _, ?_, ?_, ((((Below.refl _ w).alloc (Nat.le_refl _) _).alloc (by simp) _).alloc (by simp; omega) _).alloc (by simp; omega) _⟩
  · have := (Blk.new ((w.alloc (.cells u 29)).alloc (.cells o 26)) 29 (cells7 0 0 0 false false false false)).alloc (.cells u 29)
    rwa [e2] at this
  · have := Blk.new (((w.alloc (.cells u 29)).alloc (.cells o 26)).alloc (.cells (cells7 0 0 0 false false false false) 29)) 29 u
    rwa [e3] at this

theorem Blk.seven {W : World} {B : Nat} {t : TypeId} {c0 c1 c2 c3 c4 c5 c6 : Value} (h : Blk W B t #[c0, c1, c2, c3, c4, c5, c6]) :
    W.cell? ⟨B, 0, none⟩ = some c0 ∧ W.cell? ⟨B, 1, none⟩ = some c1 ∧ W.cell? ⟨B, 2, none⟩ = some c2 ∧ W.cell? ⟨B, 3, none⟩ = some c3 ∧ W.cell? ⟨B, 4, none⟩ = some c4 ∧ W.cell? ⟨B, 5, none⟩ = some c5 ∧ W.cell? ⟨B, 6, none⟩ = some c6 :=
  ⟨h.cell 0, h.cell 1, h.cell 2, h.cell 3, h.cell 4, h.cell 5, h.cell 6⟩
theorem below_set7 {n : Nat} {w W : World} {B : Nat} (h : Below n w W) (hn : n ≤ B) (c0 c1 c2 c3 c4 c5 c6 : Value) :
    Below n w (((((((W.setCell ⟨B, 0, none⟩ c0).setCell ⟨B, 1, none⟩ c1).setCell ⟨B, 2, none⟩ c2).setCell ⟨B, 3, none⟩ c3).setCell ⟨B, 4, none⟩ c4).setCell ⟨B, 5, none⟩ c5).setCell ⟨B, 6, none⟩ c6) :=
  ((((((h.setCell (p := ⟨B, 0, none⟩) hn c0).setCell (p := ⟨B, 1, none⟩) hn c1).setCell (p := ⟨B, 2, none⟩) hn c2).setCell (p := ⟨B, 3, none⟩) hn c3).setCell (p := ⟨B, 4, none⟩) hn c4).setCell (p := ⟨B, 5, none⟩) hn c5).setCell (p := ⟨B, 6, none⟩) hn c6
theorem Blk.set7 {W : World} {B : Nat} {t : TypeId} {u0 u1 u2 u3 u4 u5 u6 : Value} (h : Blk W B t #[u0, u1, u2, u3, u4, u5, u6]) (c0 c1 c2 c3 c4 c5 c6 : Value) :
    Blk (((((((W.setCell ⟨B, 0, none⟩ c0).setCell ⟨B, 1, none⟩ c1).setCell ⟨B, 2, none⟩ c2).setCell ⟨B, 3, none⟩ c3).setCell ⟨B, 4, none⟩ c4).setCell ⟨B, 5, none⟩ c5).setCell ⟨B, 6, none⟩ c6) B t #[c0, c1, c2, c3, c4, c5, c6] := by
  have h0 : Blk _ B t #[c0, u1, u2, u3, u4, u5, u6] := h.set 0 c0
  have h1 : Blk _ B t #[c0, c1, u2, u3, u4, u5, u6] := h0.set 1 c1
  have h2 : Blk _ B t #[c0, c1, c2, u3, u4, u5, u6] := h1.set 2 c2
  have h3 : Blk _ B t #[c0, c1, c2, c3, u4, u5, u6] := h2.set 3 c3
  have h4 : Blk _ B t #[c0, c1, c2, c3, c4, u5, u6] := h3.set 4 c4
  have h5 : Blk _ B t #[c0, c1, c2, c3, c4, c5, u6] := h4.set 5 c5
  have h6 : Blk _ B t #[c0, c1, c2, c3, c4, c5, c6] := h5.set 6 c6
  exact h6
theorem Blk.seven_open {W : World} {B : Nat} {t : TypeId} {c0 c1 c2 c3 c4 c5 c6 : Value} (h : Blk W B t #[c0, c1, c2, c3, c4, c5, c6]) :
    W.frozen? ⟨B, 0, none⟩ = false ∧ W.frozen? ⟨B, 1, none⟩ = false ∧ W.frozen? ⟨B, 2, none⟩ = false ∧ W.frozen? ⟨B, 3, none⟩ = false ∧ W.frozen? ⟨B, 4, none⟩ = false ∧ W.frozen? ⟨B, 5, none⟩ = false ∧ W.frozen? ⟨B, 6, none⟩ = false :=
  ⟨h.frozen 0, h.frozen 1, h.frozen 2, h.frozen 3, h.frozen 4, h.frozen 5, h.frozen 6⟩

set_option maxRecDepth 100000 in
set_option maxHeartbeats 4000000 in
theorem turned_0 (x y z : Int) (p q r t : Bool) (w : World) :
    Calls Tryd.prog 28 #[V7 x y z p q r t, A3 0 1 2] w fun e W' => e = .returned (V7 x y z p q r t) ∧ Below w.heap.size w W' := by
  have M0 := Mid.start w (cells7 x y z p q r t) #[I 0, I 1, I 2]
  go_enter Tryd.func28, Tryd.ntmps28
  go_wp2
  go_loopw [10] (fun i wr => (i = .int .i64 0 ∧ Mid w (cells7 x y z p q r t) (cells7 x y z p q r t) wr) ∨ (i = .int .i64 1 ∧ Mid w (cells7 x y z p q r t) (cells7 x y z p q r t) wr) ∨ (i = .int .i64 2 ∧ Mid w (cells7 x y z p q r t) (cells7 x y z p q r t) wr) ∨ (i = .int .i64 3 ∧ Mid w (cells7 x y z p q r t) (cells7 x y z p q r t) wr)) (fun i _ => 3 - (intOf i).toNat)
  case atStart => exact .inl ⟨rfl, M0⟩
  case round =>
    clear M0
    rcases hrel with ⟨rfl, M⟩ | ⟨rfl, M⟩ | ⟨rfl, M⟩ | ⟨rfl, M⟩
    · obtain ⟨s0, s1, s2, s3, s4, s5, s6⟩ := M.src.seven
      obtain ⟨d0, d1, d2, d3, d4, d5, d6⟩ := M.dst.seven
      obtain ⟨f0, f1, f2, f3, f4, f5, f6⟩ := M.dst.seven_open
      have M1 := (M.set 0 (.int .i64 x)).set 3 (.bool p)
      clear M
      go_wp2
      go_roundw
      case rel => exact .inr (.inl ⟨rfl, M1⟩)
      case measure => simp [intOf]
    · obtain ⟨s0, s1, s2, s3, s4, s5, s6⟩ := M.src.seven
      obtain ⟨d0, d1, d2, d3, d4, d5, d6⟩ := M.dst.seven
      obtain ⟨f0, f1, f2, f3, f4, f5, f6⟩ := M.dst.seven_open
      have M1 := (M.set 1 (.int .i64 y)).set 4 (.bool q)
      clear M
      go_wp2
      go_roundw
      case rel => exact .inr (.inr (.inl ⟨rfl, M1⟩))
      case measure => simp [intOf]
    · obtain ⟨s0, s1, s2, s3, s4, s5, s6⟩ := M.src.seven
      obtain ⟨d0, d1, d2, d3, d4, d5, d6⟩ := M.dst.seven
      obtain ⟨f0, f1, f2, f3, f4, f5, f6⟩ := M.dst.seven_open
      have M1 := (M.set 2 (.int .i64 z)).set 5 (.bool r)
      clear M
      go_wp2
      go_roundw
      case rel => exact .inr (.inr (.inr ⟨rfl, M1⟩))
      case measure => simp [intOf]
    · obtain ⟨d0, d1, d2, d3, d4, d5, d6⟩ := M.dst.seven
      obtain ⟨c0, c1, c2, c3, c4, c5, c6⟩ := M.res.seven
      obtain ⟨f0, f1, f2, f3, f4, f5, f6⟩ := M.res.seven_open
      have hB := M.below
      have R := M.res
      clear M
      go_wp2
      obtain ⟨j0, j1, j2, j3, j4, j5, j6⟩ := (R.set7 (.int .i64 x) (.int .i64 y) (.int .i64 z) (.bool p) (.bool q) (.bool r) (.bool t)).seven
      exact bodyPost_ret (v := V7 x y z p q r t) (by simp [results, Tryd.f28, go_sem, j0, j1, j2, j3, j4, j5, j6]) rfl ⟨rfl, below_set7 hB (by omega) _ _ _ _ _ _ _⟩

set_option maxRecDepth 100000 in
set_option maxHeartbeats 4000000 in
theorem turned_1 (x y z : Int) (p q r t : Bool) (w : World) :
    Calls Tryd.prog 28 #[V7 x y z p q r t, A3 0 2 1] w fun e W' => e = .returned (V7 x z y p r q t) ∧ Below w.heap.size w W' := by
  have M0 := Mid.start w (cells7 x y z p q r t) #[I 0, I 2, I 1]
  go_enter Tryd.func28, Tryd.ntmps28
  go_wp2
  go_loopw [10] (fun i wr => (i = .int .i64 0 ∧ Mid w (cells7 x y z p q r t) (cells7 x y z p q r t) wr) ∨ (i = .int .i64 1 ∧ Mid w (cells7 x y z p q r t) (cells7 x y z p q r t) wr) ∨ (i = .int .i64 2 ∧ Mid w (cells7 x y z p q r t) (cells7 x z z p r r t) wr) ∨ (i = .int .i64 3 ∧ Mid w (cells7 x y z p q r t) (cells7 x z y p r q t) wr)) (fun i _ => 3 - (intOf i).toNat)
  case atStart => exact .inl ⟨rfl, M0⟩
  case round =>
    clear M0
    rcases hrel with ⟨rfl, M⟩ | ⟨rfl, M⟩ | ⟨rfl, M⟩ | ⟨rfl, M⟩
    · obtain ⟨s0, s1, s2, s3, s4, s5, s6⟩ := M.src.seven
      obtain ⟨d0, d1, d2, d3, d4, d5, d6⟩ := M.dst.seven
      obtain ⟨f0, f1, f2, f3, f4, f5, f6⟩ := M.dst.seven_open
      have M1 := (M.set 0 (.int .i64 x)).set 3 (.bool p)
      clear M
      go_wp2
      go_roundw
      case rel => exact .inr (.inl ⟨rfl, M1⟩)
      case measure => simp [intOf]
    · obtain ⟨s0, s1, s2, s3, s4, s5, s6⟩ := M.src.seven
      obtain ⟨d0, d1, d2, d3, d4, d5, d6⟩ := M.dst.seven
      obtain ⟨f0, f1, f2, f3, f4, f5, f6⟩ := M.dst.seven_open
      have M1 := (M.set 1 (.int .i64 z)).set 4 (.bool r)
      clear M
      go_wp2
      go_roundw
      case rel => exact .inr (.inr (.inl ⟨rfl, M1⟩))
      case measure => simp [intOf]
    · obtain ⟨s0, s1, s2, s3, s4, s5, s6⟩ := M.src.seven
      obtain ⟨d0, d1, d2, d3, d4, d5, d6⟩ := M.dst.seven
      obtain ⟨f0, f1, f2, f3, f4, f5, f6⟩ := M.dst.seven_open
      have M1 := (M.set 2 (.int .i64 y)).set 5 (.bool q)
      clear M
      go_wp2
      go_roundw
      case rel => exact .inr (.inr (.inr ⟨rfl, M1⟩))
      case measure => simp [intOf]
    · obtain ⟨d0, d1, d2, d3, d4, d5, d6⟩ := M.dst.seven
      obtain ⟨c0, c1, c2, c3, c4, c5, c6⟩ := M.res.seven
      obtain ⟨f0, f1, f2, f3, f4, f5, f6⟩ := M.res.seven_open
      have hB := M.below
      have R := M.res
      clear M
      go_wp2
      obtain ⟨j0, j1, j2, j3, j4, j5, j6⟩ := (R.set7 (.int .i64 x) (.int .i64 z) (.int .i64 y) (.bool p) (.bool r) (.bool q) (.bool t)).seven
      exact bodyPost_ret (v := V7 x z y p r q t) (by simp [results, Tryd.f28, go_sem, j0, j1, j2, j3, j4, j5, j6]) rfl ⟨rfl, below_set7 hB (by omega) _ _ _ _ _ _ _⟩

set_option maxRecDepth 100000 in
set_option maxHeartbeats 4000000 in
theorem turned_2 (x y z : Int) (p q r t : Bool) (w : World) :
    Calls Tryd.prog 28 #[V7 x y z p q r t, A3 1 0 2] w fun e W' => e = .returned (V7 y x z q p r t) ∧ Below w.heap.size w W' := by
  have M0 := Mid.start w (cells7 x y z p q r t) #[I 1, I 0, I 2]
  go_enter Tryd.func28, Tryd.ntmps28
  go_wp2
  go_loopw [10] (fun i wr => (i = .int .i64 0 ∧ Mid w (cells7 x y z p q r t) (cells7 x y z p q r t) wr) ∨ (i = .int .i64 1 ∧ Mid w (cells7 x y z p q r t) (cells7 y y z q q r t) wr) ∨ (i = .int .i64 2 ∧ Mid w (cells7 x y z p q r t) (cells7 y x z q p r t) wr) ∨ (i = .int .i64 3 ∧ Mid w (cells7 x y z p q r t) (cells7 y x z q p r t) wr)) (fun i _ => 3 - (intOf i).toNat)
  case atStart => exact .inl ⟨rfl, M0⟩
  case round =>
    clear M0
    rcases hrel with ⟨rfl, M⟩ | ⟨rfl, M⟩ | ⟨rfl, M⟩ | ⟨rfl, M⟩
    · obtain ⟨s0, s1, s2, s3, s4, s5, s6⟩ := M.src.seven
      obtain ⟨d0, d1, d2, d3, d4, d5, d6⟩ := M.dst.seven
      obtain ⟨f0, f1, f2, f3, f4, f5, f6⟩ := M.dst.seven_open
      have M1 := (M.set 0 (.int .i64 y)).set 3 (.bool q)
      clear M
      go_wp2
      go_roundw
      case rel => exact .inr (.inl ⟨rfl, M1⟩)
      case measure => simp [intOf]
    · obtain ⟨s0, s1, s2, s3, s4, s5, s6⟩ := M.src.seven
      obtain ⟨d0, d1, d2, d3, d4, d5, d6⟩ := M.dst.seven
      obtain ⟨f0, f1, f2, f3, f4, f5, f6⟩ := M.dst.seven_open
      have M1 := (M.set 1 (.int .i64 x)).set 4 (.bool p)
      clear M
      go_wp2
      go_roundw
      case rel => exact .inr (.inr (.inl ⟨rfl, M1⟩))
      case measure => simp [intOf]
    · obtain ⟨s0, s1, s2, s3, s4, s5, s6⟩ := M.src.seven
      obtain ⟨d0, d1, d2, d3, d4, d5, d6⟩ := M.dst.seven
      obtain ⟨f0, f1, f2, f3, f4, f5, f6⟩ := M.dst.seven_open
      have M1 := (M.set 2 (.int .i64 z)).set 5 (.bool r)
      clear M
      go_wp2
      go_roundw
      case rel => exact .inr (.inr (.inr ⟨rfl, M1⟩))
      case measure => simp [intOf]
    · obtain ⟨d0, d1, d2, d3, d4, d5, d6⟩ := M.dst.seven
      obtain ⟨c0, c1, c2, c3, c4, c5, c6⟩ := M.res.seven
      obtain ⟨f0, f1, f2, f3, f4, f5, f6⟩ := M.res.seven_open
      have hB := M.below
      have R := M.res
      clear M
      go_wp2
      obtain ⟨j0, j1, j2, j3, j4, j5, j6⟩ := (R.set7 (.int .i64 y) (.int .i64 x) (.int .i64 z) (.bool q) (.bool p) (.bool r) (.bool t)).seven
      exact bodyPost_ret (v := V7 y x z q p r t) (by simp [results, Tryd.f28, go_sem, j0, j1, j2, j3, j4, j5, j6]) rfl ⟨rfl, below_set7 hB (by omega) _ _ _ _ _ _ _⟩

set_option maxRecDepth 100000 in
set_option maxHeartbeats 4000000 in
theorem turned_3 (x y z : Int) (p q r t : Bool) (w : World) :
    Calls Tryd.prog 28 #[V7 x y z p q r t, A3 1 2 0] w fun e W' => e = .returned (V7 y z x q r p t) ∧ Below w.heap.size w W' := by
  have M0 := Mid.start w (cells7 x y z p q r t) #[I 1, I 2, I 0]
  go_enter Tryd.func28, Tryd.ntmps28
  go_wp2
  go_loopw [10] (fun i wr => (i = .int .i64 0 ∧ Mid w (cells7 x y z p q r t) (cells7 x y z p q r t) wr) ∨ (i = .int .i64 1 ∧ Mid w (cells7 x y z p q r t) (cells7 y y z q q r t) wr) ∨ (i = .int .i64 2 ∧ Mid w (cells7 x y z p q r t) (cells7 y z z q r r t) wr) ∨ (i = .int .i64 3 ∧ Mid w (cells7 x y z p q r t) (cells7 y z x q r p t) wr)) (fun i _ => 3 - (intOf i).toNat)
  case atStart => exact .inl ⟨rfl, M0⟩
  case round =>
    clear M0
    rcases hrel with ⟨rfl, M⟩ | ⟨rfl, M⟩ | ⟨rfl, M⟩ | ⟨rfl, M⟩
    · obtain ⟨s0, s1, s2, s3, s4, s5, s6⟩ := M.src.seven
      obtain ⟨d0, d1, d2, d3, d4, d5, d6⟩ := M.dst.seven
      obtain ⟨f0, f1, f2, f3, f4, f5, f6⟩ := M.dst.seven_open
      have M1 := (M.set 0 (.int .i64 y)).set 3 (.bool q)
      clear M
      go_wp2
      go_roundw
      case rel => exact .inr (.inl ⟨rfl, M1⟩)
      case measure => simp [intOf]
    · obtain ⟨s0, s1, s2, s3, s4, s5, s6⟩ := M.src.seven
      obtain ⟨d0, d1, d2, d3, d4, d5, d6⟩ := M.dst.seven
      obtain ⟨f0, f1, f2, f3, f4, f5, f6⟩ := M.dst.seven_open
      have M1 := (M.set 1 (.int .i64 z)).set 4 (.bool r)
      clear M
      go_wp2
      go_roundw
      case rel => exact .inr (.inr (.inl ⟨rfl, M1⟩))
      case measure => simp [intOf]
    · obtain ⟨s0, s1, s2, s3, s4, s5, s6⟩ := M.src.seven
      obtain ⟨d0, d1, d2, d3, d4, d5, d6⟩ := M.dst.seven
      obtain ⟨f0, f1, f2, f3, f4, f5, f6⟩ := M.dst.seven_open
      have M1 := (M.set 2 (.int .i64 x)).set 5 (.bool p)
      clear M
      go_wp2
      go_roundw
      case rel => exact .inr (.inr (.inr ⟨rfl, M1⟩))
      case measure => simp [intOf]
    · obtain ⟨d0, d1, d2, d3, d4, d5, d6⟩ := M.dst.seven
      obtain ⟨c0, c1, c2, c3, c4, c5, c6⟩ := M.res.seven
      obtain ⟨f0, f1, f2, f3, f4, f5, f6⟩ := M.res.seven_open
      have hB := M.below
      have R := M.res
      clear M
      go_wp2
      obtain ⟨j0, j1, j2, j3, j4, j5, j6⟩ := (R.set7 (.int .i64 y) (.int .i64 z) (.int .i64 x) (.bool q) (.bool r) (.bool p) (.bool t)).seven
      exact bodyPost_ret (v := V7 y z x q r p t) (by simp [results, Tryd.f28, go_sem, j0, j1, j2, j3, j4, j5, j6]) rfl ⟨rfl, below_set7 hB (by omega) _ _ _ _ _ _ _⟩

set_option maxRecDepth 100000 in
set_option maxHeartbeats 4000000 in
theorem turned_4 (x y z : Int) (p q r t : Bool) (w : World) :
    Calls Tryd.prog 28 #[V7 x y z p q r t, A3 2 0 1] w fun e W' => e = .returned (V7 z x y r p q t) ∧ Below w.heap.size w W' := by
  have M0 := Mid.start w (cells7 x y z p q r t) #[I 2, I 0, I 1]
  go_enter Tryd.func28, Tryd.ntmps28
  go_wp2
  go_loopw [10] (fun i wr => (i = .int .i64 0 ∧ Mid w (cells7 x y z p q r t) (cells7 x y z p q r t) wr) ∨ (i = .int .i64 1 ∧ Mid w (cells7 x y z p q r t) (cells7 z y z r q r t) wr) ∨ (i = .int .i64 2 ∧ Mid w (cells7 x y z p q r t) (cells7 z x z r p r t) wr) ∨ (i = .int .i64 3 ∧ Mid w (cells7 x y z p q r t) (cells7 z x y r p q t) wr)) (fun i _ => 3 - (intOf i).toNat)
  case atStart => exact .inl ⟨rfl, M0⟩
  case round =>
    clear M0
    rcases hrel with ⟨rfl, M⟩ | ⟨rfl, M⟩ | ⟨rfl, M⟩ | ⟨rfl, M⟩
    · obtain ⟨s0, s1, s2, s3, s4, s5, s6⟩ := M.src.seven
      obtain ⟨d0, d1, d2, d3, d4, d5, d6⟩ := M.dst.seven
      obtain ⟨f0, f1, f2, f3, f4, f5, f6⟩ := M.dst.seven_open
      have M1 := (M.set 0 (.int .i64 z)).set 3 (.bool r)
      clear M
      go_wp2
      go_roundw
      case rel => exact .inr (.inl ⟨rfl, M1⟩)
      case measure => simp [intOf]
    · obtain ⟨s0, s1, s2, s3, s4, s5, s6⟩ := M.src.seven
      obtain ⟨d0, d1, d2, d3, d4, d5, d6⟩ := M.dst.seven
      obtain ⟨f0, f1, f2, f3, f4, f5, f6⟩ := M.dst.seven_open
      have M1 := (M.set 1 (.int .i64 x)).set 4 (.bool p)
      clear M
      go_wp2
      go_roundw
      case rel => exact .inr (.inr (.inl ⟨rfl, M1⟩))
      case measure => simp [intOf]
    · obtain ⟨s0, s1, s2, s3, s4, s5, s6⟩ := M.src.seven
      obtain ⟨d0, d1, d2, d3, d4, d5, d6⟩ := M.dst.seven
      obtain ⟨f0, f1, f2, f3, f4, f5, f6⟩ := M.dst.seven_open
      have M1 := (M.set 2 (.int .i64 y)).set 5 (.bool q)
      clear M
      go_wp2
      go_roundw
      case rel => exact .inr (.inr (.inr ⟨rfl, M1⟩))
      case measure => simp [intOf]
    · obtain ⟨d0, d1, d2, d3, d4, d5, d6⟩ := M.dst.seven
      obtain ⟨c0, c1, c2, c3, c4, c5, c6⟩ := M.res.seven
      obtain ⟨f0, f1, f2, f3, f4, f5, f6⟩ := M.res.seven_open
      have hB := M.below
      have R := M.res
      clear M
      go_wp2
      obtain ⟨j0, j1, j2, j3, j4, j5, j6⟩ := (R.set7 (.int .i64 z) (.int .i64 x) (.int .i64 y) (.bool r) (.bool p) (.bool q) (.bool t)).seven
      exact bodyPost_ret (v := V7 z x y r p q t) (by simp [results, Tryd.f28, go_sem, j0, j1, j2, j3, j4, j5, j6]) rfl ⟨rfl, below_set7 hB (by omega) _ _ _ _ _ _ _⟩

set_option maxRecDepth 100000 in
set_option maxHeartbeats 4000000 in
theorem turned_5 (x y z : Int) (p q r t : Bool) (w : World) :
    Calls Tryd.prog 28 #[V7 x y z p q r t, A3 2 1 0] w fun e W' => e = .returned (V7 z y x r q p t) ∧ Below w.heap.size w W' := by
  have M0 := Mid.start w (cells7 x y z p q r t) #[I 2, I 1, I 0]
  go_enter Tryd.func28, Tryd.ntmps28
  go_wp2
  go_loopw [10] (fun i wr => (i = .int .i64 0 ∧ Mid w (cells7 x y z p q r t) (cells7 x y z p q r t) wr) ∨ (i = .int .i64 1 ∧ Mid w (cells7 x y z p q r t) (cells7 z y z r q r t) wr) ∨ (i = .int .i64 2 ∧ Mid w (cells7 x y z p q r t) (cells7 z y z r q r t) wr) ∨ (i = .int .i64 3 ∧ Mid w (cells7 x y z p q r t) (cells7 z y x r q p t) wr)) (fun i _ => 3 - (intOf i).toNat)
  case atStart => exact .inl ⟨rfl, M0⟩
  case round =>
    clear M0
    rcases hrel with ⟨rfl, M⟩ | ⟨rfl, M⟩ | ⟨rfl, M⟩ | ⟨rfl, M⟩
    · obtain ⟨s0, s1, s2, s3, s4, s5, s6⟩ := M.src.seven
      obtain ⟨d0, d1, d2, d3, d4, d5, d6⟩ := M.dst.seven
      obtain ⟨f0, f1, f2, f3, f4, f5, f6⟩ := M.dst.seven_open
      have M1 := (M.set 0 (.int .i64 z)).set 3 (.bool r)
      clear M
      go_wp2
      go_roundw
      case rel => exact .inr (.inl ⟨rfl, M1⟩)
      case measure => simp [intOf]
    · obtain ⟨s0, s1, s2, s3, s4, s5, s6⟩ := M.src.seven
      obtain ⟨d0, d1, d2, d3, d4, d5, d6⟩ := M.dst.seven
      obtain ⟨f0, f1, f2, f3, f4, f5, f6⟩ := M.dst.seven_open
      have M1 := (M.set 1 (.int .i64 y)).set 4 (.bool q)
      clear M
      go_wp2
      go_roundw
      case rel => exact .inr (.inr (.inl ⟨rfl, M1⟩))
      case measure => simp [intOf]
    · obtain ⟨s0, s1, s2, s3, s4, s5, s6⟩ := M.src.seven
      obtain ⟨d0, d1, d2, d3, d4, d5, d6⟩ := M.dst.seven
      obtain ⟨f0, f1, f2, f3, f4, f5, f6⟩ := M.dst.seven_open
      have M1 := (M.set 2 (.int .i64 x)).set 5 (.bool p)
      clear M
      go_wp2
      go_roundw
      case rel => exact .inr (.inr (.inr ⟨rfl, M1⟩))
      case measure => simp [intOf]
    · obtain ⟨d0, d1, d2, d3, d4, d5, d6⟩ := M.dst.seven
      obtain ⟨c0, c1, c2, c3, c4, c5, c6⟩ := M.res.seven
      obtain ⟨f0, f1, f2, f3, f4, f5, f6⟩ := M.res.seven_open
      have hB := M.below
      have R := M.res
      clear M
      go_wp2
      obtain ⟨j0, j1, j2, j3, j4, j5, j6⟩ := (R.set7 (.int .i64 z) (.int .i64 y) (.int .i64 x) (.bool r) (.bool q) (.bool p) (.bool t)).seven
      exact bodyPost_ret (v := V7 z y x r q p t) (by simp [results, Tryd.f28, go_sem, j0, j1, j2, j3, j4, j5, j6]) rfl ⟨rfl, below_set7 hB (by omega) _ _ _ _ _ _ _⟩

end Go.Proofs.YtanhhlekbdhfmaaDoor

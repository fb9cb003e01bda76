/-
  The small functions of turn and of the document's answer: what each gives, for every input.
-/
import Derived.Test.YtlahfffgmfjpaaaGreatDoorPart17
import Derived.Test.YtlahfffgmfjpaaaGreatDoorPart3
import Derived.Test.YtlahfffgmfjpaaaGreatDoorPart5
import Derived.Shelf.SlSortCmp.SmallK
namespace Go.Proofs.YtlahfffgmfjpaaaGreatDoor
open Go Go.RowKit Go.Shelf

theorem ix0 (x y z : Int) (w : World) : (Instr.index 22 (A3 x y z) (.int .i64 0)).run Tryz.prog w = .ok (.int .i64 x) w := by kernel_rfl
theorem ix1 (x y z : Int) (w : World) : (Instr.index 22 (A3 x y z) (.int .i64 1)).run Tryz.prog w = .ok (.int .i64 y) w := by kernel_rfl
theorem ix2 (x y z : Int) (w : World) : (Instr.index 22 (A3 x y z) (.int .i64 2)).run Tryz.prog w = .ok (.int .i64 z) w := by kernel_rfl

attribute [local go_sem] Oper.semAt_some ext_const eq_ints_at eq_bools_at eq_wants ix0 ix1 ix2

theorem mayT_D {x y z : Int} {p q r t : Bool} : mayT (x, y, z, p, q, r, t) ↔ mayD x y z := by
  simp only [mayT, mayD, okD]
  omega

set_option maxRecDepth 100000 in
set_option maxHeartbeats 1000000 in
theorem tcheck_yes {x y z : Int} {p q r t : Bool} (w : World) (h : mayD x y z) : Calls Tryz.prog 35 #[V7 x y z p q r t] w fun e W' => e = .returned (I 0) ∧ Below w.heap.size w W' := by
  have hc := fun w => check_yes w h
  clear h
  have hB : Below w.heap.size w (w.alloc (.cells (cells7 x y z p q r t) 26)) := (Below.refl _ w).alloc (Nat.le_refl _) _
  go_enter Tryz.func35, Tryz.ntmps35
  go_wp2_with fail
  refine (hc _).mono ?_
  rintro e w1 ⟨rfl, hT⟩
  go_wp2_with fail
  go_ret
  exact ⟨rfl, then_below hB hT⟩
set_option maxRecDepth 100000 in
set_option maxHeartbeats 1000000 in
theorem tcheck_no {x y z : Int} {p q r t : Bool} (w : World) (h : ¬ mayD x y z) : Calls Tryz.prog 35 #[V7 x y z p q r t] w fun e W' => e = .returned (I 8) ∧ Below w.heap.size w W' := by
  have hc := fun w => check_no w h
  clear h
  have hB : Below w.heap.size w (w.alloc (.cells (cells7 x y z p q r t) 26)) := (Below.refl _ w).alloc (Nat.le_refl _) _
  go_enter Tryz.func35, Tryz.ntmps35
  go_wp2_with fail
  refine (hc _).mono ?_
  rintro e w1 ⟨rfl, hT⟩
  go_wp2_with fail
  go_ret
  exact ⟨rfl, then_below hB hT⟩

end Go.Proofs.YtlahfffgmfjpaaaGreatDoor

/-
  turn.turned: what is asked for, by one of the six orders of the axes.
-/
namespace Go.Proofs.YtlahfffgmfjpaaaGreatDoor
open Go Go.RowKit Go.Shelf

attribute [local go_sem] Oper.semAt_some ext_const eq_ints_at eq_bools_at eq_wants ix0 ix1 ix2

/-- The six orders, as the program lists them. -/
def ord : Nat → Nat × Nat × Nat
  | 0 => (0, 1, 2) | 1 => (0, 2, 1) | 2 => (1, 0, 2) | 3 => (1, 2, 0) | 4 => (2, 0, 1) | _ => (2, 1, 0)
def selI : Wt → Nat → Int
  | (x, _, _, _), 0 => x | (_, y, _, _), 1 => y | (_, _, z, _), _ => z
def selB : Wt → Nat → Bool
  | (_, _, _, p, _), 0 => p | (_, _, _, _, q, _), 1 => q | (_, _, _, _, _, r, _), _ => r
def byOrd (w : Wt) (n : Nat) : Wt := (selI w (ord n).1, selI w (ord n).2.1, selI w (ord n).2.2, selB w (ord n).1, selB w (ord n).2.1, selB w (ord n).2.2, turnT w)

structure Mid (w : World) (u v : Array Value) (W : World) : Prop where
  src : Blk W w.heap.size 26 u
  res : Blk W (w.heap.size + 1 + 1) 26 (cells7 0 0 0 false false false false)
  dst : Blk W (w.heap.size + 1 + 1 + 1) 26 v
  below : Below w.heap.size w W

theorem Mid.set {w W : World} {u v : Array Value} (h : Mid w u v W) (i : Nat) (x : Value) : Mid w u (v.setIfInBounds i x) (W.setCell ⟨w.heap.size + 1 + 1 + 1, i, none⟩ x) :=
  ⟨h.src.other i x (by omega), h.res.other i x (by omega), h.dst.set i x, h.below.setCell (p := ⟨w.heap.size + 1 + 1 + 1, i, none⟩) (by show w.heap.size ≤ w.heap.size + 1 + 1 + 1; omega) x⟩
theorem Mid.start (w : World) (u o : Array Value) : Mid w u u ((((w.alloc (.cells u 26)).alloc (.cells o 22)).alloc (.cells (cells7 0 0 0 false false false false) 26)).alloc (.cells u 26)) := by
  have e1 : (w.alloc (.cells u 26)).heap.size = w.heap.size + 1 := by simp
  have e2 : ((w.alloc (.cells u 26)).alloc (.cells o 22)).heap.size = w.heap.size + 1 + 1 := by simp
  have e3 : (((w.alloc (.cells u 26)).alloc (.cells o 22)).alloc (.cells (cells7 0 0 0 false false false false) 26)).heap.size = w.heap.size + 1 + 1 + 1 := by simp
  refine ⟨(((Blk.new w _ u).alloc _).alloc _).alloc _, ?_, ?_, ((((Below.refl _ w).alloc (Nat.le_refl _) _).alloc (by simp) _).alloc (by simp; omega) _).alloc (by simp; omega) _⟩
  · have := (Blk.new ((w.alloc (.cells u 26)).alloc (.cells o 22)) 26 (cells7 0 0 0 false false false false)).alloc (.cells u 26)
    rwa [e2] at this
  · have := Blk.new (((w.alloc (.cells u 26)).alloc (.cells o 22)).alloc (.cells (cells7 0 0 0 false false false false) 26)) 26 u
    rwa [e3] at this

theorem Blk.seven {W : World} {B : Nat} {t : TypeId} {c0 c1 c2 c3 c4 c5 c6 : Value} (h : Blk W B t #[c0, c1, c2, c3, c4, c5, c6]) :
    W.cell? ⟨B, 0, none⟩ = some c0 ∧ W.cell? ⟨B, 1, none⟩ = some c1 ∧ W.cell? ⟨B, 2, none⟩ = some c2 ∧ W.cell? ⟨B, 3, none⟩ = some c3 ∧ W.cell? ⟨B, 4, none⟩ = some c4 ∧ W.cell? ⟨B, 5, none⟩ = some c5 ∧ W.cell? ⟨B, 6, none⟩ = some c6 :=
  ⟨h.cell 0, h.cell 1, h.cell 2, h.cell 3, h.cell 4, h.cell 5, h.cell 6⟩
theorem below_set7 {n : Nat} {w W : World} {B : Nat} (h : Below n w W) (hn : n ≤ B) (c0 c1 c2 c3 c4 c5 c6 : Value) :
    Below n w (((((((W.setCell ⟨B, 0, none⟩ c0).setCell ⟨B, 1, none⟩ c1).setCell ⟨B, 2, none⟩ c2).setCell ⟨B, 3, none⟩ c3).setCell ⟨B, 4, none⟩ c4).setCell ⟨B, 5, none⟩ c5).setCell ⟨B, 6, none⟩ c6) :=
  ((((((h.setCell (p := ⟨B, 0, none⟩) hn c0).setCell (p := ⟨B, 1, none⟩) hn c1).setCell (p := ⟨B, 2, none⟩) hn c2).setCell (p := ⟨B, 3, none⟩) hn c3).setCell (p := ⟨B, 4, none⟩) hn c4).setCell (p := ⟨B, 5, none⟩) hn c5).setCell (p := ⟨B, 6, none⟩) hn c6
theorem Blk.set7 {W : World} {B : Nat} {t : TypeId} {u0 u1 u2 u3 u4 u5 u6 : Value} (h : Blk W B t #[u0, u1, u2, u3, u4, u5, u6]) (c0 c1 c2 c3 c4 c5 c6 : Value) :
    Blk (((((((W.setCell ⟨B, 0, none⟩ c0).setCell ⟨B, 1, none⟩ c1).setCell ⟨B, 2, none⟩ c2).setCell ⟨B, 3, none⟩ c3).setCell ⟨B, 4, none⟩ c4).setCell ⟨B, 5, none⟩ c5).setCell ⟨B, 6, none⟩ c6) B t #[c0, c1, c2, c3, c4, c5, c6] := by
  have h0 : Blk _ B t #[c0, u1, u2, u3, u4, u5, u6] := h.set 0 c0
  have h1 : Blk _ B t #[c0, c1, u2, u3, u4, u5, u6] := h0.set 1 c1
  have h2 : Blk _ B t #[c0, c1, c2, u3, u4, u5, u6] := h1.set 2 c2
  have h3 : Blk _ B t #[c0, c1, c2, c3, u4, u5, u6] := h2.set 3 c3
  have h4 : Blk _ B t #[c0, c1, c2, c3, c4, u5, u6] := h3.set 4 c4
  have h5 : Blk _ B t #[c0, c1, c2, c3, c4, c5, u6] := h4.set 5 c5
  have h6 : Blk _ B t #[c0, c1, c2, c3, c4, c5, c6] := h5.set 6 c6
  exact h6
theorem Blk.seven_open {W : World} {B : Nat} {t : TypeId} {c0 c1 c2 c3 c4 c5 c6 : Value} (h : Blk W B t #[c0, c1, c2, c3, c4, c5, c6]) :
    W.frozen? ⟨B, 0, none⟩ = false ∧ W.frozen? ⟨B, 1, none⟩ = false ∧ W.frozen? ⟨B, 2, none⟩ = false ∧ W.frozen? ⟨B, 3, none⟩ = false ∧ W.frozen? ⟨B, 4, none⟩ = false ∧ W.frozen? ⟨B, 5, none⟩ = false ∧ W.frozen? ⟨B, 6, none⟩ = false :=
  ⟨h.frozen 0, h.frozen 1, h.frozen 2, h.frozen 3, h.frozen 4, h.frozen 5, h.frozen 6⟩

set_option maxRecDepth 100000 in
set_option maxHeartbeats 4000000 in
theorem turned_0 (x y z : Int) (p q r t : Bool) (w : World) :
    Calls Tryz.prog 61 #[V7 x y z p q r t, A3 0 1 2] w fun e W' => e = .returned (V7 x y z p q r t) ∧ Below w.heap.size w W' := by
  have M0 := Mid.start w (cells7 x y z p q r t) #[I 0, I 1, I 2]
  go_enter Tryz.func61, Tryz.ntmps61
  go_wp2
  go_loopw [10] (fun i wr => (i = .int .i64 0 ∧ Mid w (cells7 x y z p q r t) (cells7 x y z p q r t) wr) ∨ (i = .int .i64 1 ∧ Mid w (cells7 x y z p q r t) (cells7 x y z p q r t) wr) ∨ (i = .int .i64 2 ∧ Mid w (cells7 x y z p q r t) (cells7 x y z p q r t) wr) ∨ (i = .int .i64 3 ∧ Mid w (cells7 x y z p q r t) (cells7 x y z p q r t) wr)) (fun i _ => 3 - (RowKit.intOf i).toNat)
  case atStart => exact .inl ⟨rfl, M0⟩
  case round =>
    clear M0
    rcases hrel with ⟨rfl, M⟩ | ⟨rfl, M⟩ | ⟨rfl, M⟩ | ⟨rfl, M⟩
    · obtain ⟨s0, s1, s2, s3, s4, s5, s6⟩ := M.src.seven
      obtain ⟨d0, d1, d2, d3, d4, d5, d6⟩ := M.dst.seven
      obtain ⟨f0, f1, f2, f3, f4, f5, f6⟩ := M.dst.seven_open
      have M1 := (M.set 0 (.int .i64 x)).set 3 (.bool p)
      clear M
      go_wp2
      go_roundw
      case rel => exact .inr (.inl ⟨rfl, M1⟩)
      case measure => simp [RowKit.intOf]
    · obtain ⟨s0, s1, s2, s3, s4, s5, s6⟩ := M.src.seven
      obtain ⟨d0, d1, d2, d3, d4, d5, d6⟩ := M.dst.seven
      obtain ⟨f0, f1, f2, f3, f4, f5, f6⟩ := M.dst.seven_open
      have M1 := (M.set 1 (.int .i64 y)).set 4 (.bool q)
      clear M
      go_wp2
      go_roundw
      case rel => exact .inr (.inr (.inl ⟨rfl, M1⟩))
      case measure => simp [RowKit.intOf]
    · obtain ⟨s0, s1, s2, s3, s4, s5, s6⟩ := M.src.seven
      obtain ⟨d0, d1, d2, d3, d4, d5, d6⟩ := M.dst.seven
      obtain ⟨f0, f1, f2, f3, f4, f5, f6⟩ := M.dst.seven_open
      have M1 := (M.set 2 (.int .i64 z)).set 5 (.bool r)
      clear M
      go_wp2
      go_roundw
      case rel => exact .inr (.inr (.inr ⟨rfl, M1⟩))
      case measure => simp [RowKit.intOf]
    · obtain ⟨d0, d1, d2, d3, d4, d5, d6⟩ := M.dst.seven
      obtain ⟨c0, c1, c2, c3, c4, c5, c6⟩ := M.res.seven
      obtain ⟨f0, f1, f2, f3, f4, f5, f6⟩ := M.res.seven_open
      have hB := M.below
      have R := M.res
      clear M
      go_wp2
      obtain ⟨j0, j1, j2, j3, j4, j5, j6⟩ := (R.set7 (.int .i64 x) (.int .i64 y) (.int .i64 z) (.bool p) (.bool q) (.bool r) (.bool t)).seven
      exact bodyPost_ret (v := V7 x y z p q r t) (by simp [results, Tryz.f61, go_sem, j0, j1, j2, j3, j4, j5, j6]) rfl ⟨rfl, below_set7 hB (by omega) _ _ _ _ _ _ _⟩

set_option maxRecDepth 100000 in
set_option maxHeartbeats 4000000 in
theorem turned_1 (x y z : Int) (p q r t : Bool) (w : World) :
    Calls Tryz.prog 61 #[V7 x y z p q r t, A3 0 2 1] w fun e W' => e = .returned (V7 x z y p r q t) ∧ Below w.heap.size w W' := by
  have M0 := Mid.start w (cells7 x y z p q r t) #[I 0, I 2, I 1]
  go_enter Tryz.func61, Tryz.ntmps61
  go_wp2
  go_loopw [10] (fun i wr => (i = .int .i64 0 ∧ Mid w (cells7 x y z p q r t) (cells7 x y z p q r t) wr) ∨ (i = .int .i64 1 ∧ Mid w (cells7 x y z p q r t) (cells7 x y z p q r t) wr) ∨ (i = .int .i64 2 ∧ Mid w (cells7 x y z p q r t) (cells7 x z z p r r t) wr) ∨ (i = .int .i64 3 ∧ Mid w (cells7 x y z p q r t) (cells7 x z y p r q t) wr)) (fun i _ => 3 - (RowKit.intOf i).toNat)
  case atStart => exact .inl ⟨rfl, M0⟩
  case round =>
    clear M0
    rcases hrel with ⟨rfl, M⟩ | ⟨rfl, M⟩ | ⟨rfl, M⟩ | ⟨rfl, M⟩
    · obtain ⟨s0, s1, s2, s3, s4, s5, s6⟩ := M.src.seven
      obtain ⟨d0, d1, d2, d3, d4, d5, d6⟩ := M.dst.seven
      obtain ⟨f0, f1, f2, f3, f4, f5, f6⟩ := M.dst.seven_open
      have M1 := (M.set 0 (.int .i64 x)).set 3 (.bool p)
      clear M
      go_wp2
      go_roundw
      case rel => exact .inr (.inl ⟨rfl, M1⟩)
      case measure => simp [RowKit.intOf]
    · obtain ⟨s0, s1, s2, s3, s4, s5, s6⟩ := M.src.seven
      obtain ⟨d0, d1, d2, d3, d4, d5, d6⟩ := M.dst.seven
      obtain ⟨f0, f1, f2, f3, f4, f5, f6⟩ := M.dst.seven_open
      have M1 := (M.set 1 (.int .i64 z)).set 4 (.bool r)
      clear M
      go_wp2
      go_roundw
      case rel => exact .inr (.inr (.inl ⟨rfl, M1⟩))
      case measure => simp [RowKit.intOf]
    · obtain ⟨s0, s1, s2, s3, s4, s5, s6⟩ := M.src.seven
      obtain ⟨d0, d1, d2, d3, d4, d5, d6⟩ := M.dst.seven
      obtain ⟨f0, f1, f2, f3, f4, f5, f6⟩ := M.dst.seven_open
      have M1 := (M.set 2 (.int .i64 y)).set 5 (.bool q)
      clear M
      go_wp2
      go_roundw
      case rel => exact .inr (.inr (.inr ⟨rfl, M1⟩))
      case measure => simp [RowKit.intOf]
    · obtain ⟨d0, d1, d2, d3, d4, d5, d6⟩ := M.dst.seven
      obtain ⟨c0, c1, c2, c3, c4, c5, c6⟩ := M.res.seven
      obtain ⟨f0, f1, f2, f3, f4, f5, f6⟩ := M.res.seven_open
      have hB := M.below
      have R := M.res
      clear M
      go_wp2
      obtain ⟨j0, j1, j2, j3, j4, j5, j6⟩ := (R.set7 (.int .i64 x) (.int .i64 z) (.int .i64 y) (.bool p) (.bool r) (.bool q) (.bool t)).seven
      exact bodyPost_ret (v := V7 x z y p r q t) (by simp [results, Tryz.f61, go_sem, j0, j1, j2, j3, j4, j5, j6]) rfl ⟨rfl, below_set7 hB (by omega) _ _ _ _ _ _ _⟩

set_option maxRecDepth 100000 in
set_option maxHeartbeats 4000000 in
theorem turned_2 (x y z : Int) (p q r t : Bool) (w : World) :
    Calls Tryz.prog 61 #[V7 x y z p q r t, A3 1 0 2] w fun e W' => e = .returned (V7 y x z q p r t) ∧ Below w.heap.size w W' := by
  have M0 := Mid.start w (cells7 x y z p q r t) #[I 1, I 0, I 2]
  go_enter Tryz.func61, Tryz.ntmps61
  go_wp2
  go_loopw [10] (fun i wr => (i = .int .i64 0 ∧ Mid w (cells7 x y z p q r t) (cells7 x y z p q r t) wr) ∨ (i = .int .i64 1 ∧ Mid w (cells7 x y z p q r t) (cells7 y y z q q r t) wr) ∨ (i = .int .i64 2 ∧ Mid w (cells7 x y z p q r t) (cells7 y x z q p r t) wr) ∨ (i = .int .i64 3 ∧ Mid w (cells7 x y z p q r t) (cells7 y x z q p r t) wr)) (fun i _ => 3 - (RowKit.intOf i).toNat)
  case atStart => exact .inl ⟨rfl, M0⟩
  case round =>
    clear M0
    rcases hrel with ⟨rfl, M⟩ | ⟨rfl, M⟩ | ⟨rfl, M⟩ | ⟨rfl, M⟩
    · obtain ⟨s0, s1, s2, s3, s4, s5, s6⟩ := M.src.seven
      obtain ⟨d0, d1, d2, d3, d4, d5, d6⟩ := M.dst.seven
      obtain ⟨f0, f1, f2, f3, f4, f5, f6⟩ := M.dst.seven_open
      have M1 := (M.set 0 (.int .i64 y)).set 3 (.bool q)
      clear M
      go_wp2
      go_roundw
      case rel => exact .inr (.inl ⟨rfl, M1⟩)
      case measure => simp [RowKit.intOf]
    · obtain ⟨s0, s1, s2, s3, s4, s5, s6⟩ := M.src.seven
      obtain ⟨d0, d1, d2, d3, d4, d5, d6⟩ := M.dst.seven
      obtain ⟨f0, f1, f2, f3, f4, f5, f6⟩ := M.dst.seven_open
      have M1 := (M.set 1 (.int .i64 x)).set 4 (.bool p)
      clear M
      go_wp2
      go_roundw
      case rel => exact .inr (.inr (.inl ⟨rfl, M1⟩))
      case measure => simp [RowKit.intOf]
    · obtain ⟨s0, s1, s2, s3, s4, s5, s6⟩ := M.src.seven
      obtain ⟨d0, d1, d2, d3, d4, d5, d6⟩ := M.dst.seven
      obtain ⟨f0, f1, f2, f3, f4, f5, f6⟩ := M.dst.seven_open
      have M1 := (M.set 2 (.int .i64 z)).set 5 (.bool r)
      clear M
      go_wp2
      go_roundw
      case rel => exact .inr (.inr (.inr ⟨rfl, M1⟩))
      case measure => simp [RowKit.intOf]
    · obtain ⟨d0, d1, d2, d3, d4, d5, d6⟩ := M.dst.seven
      obtain ⟨c0, c1, c2, c3, c4, c5, c6⟩ := M.res.seven
      obtain ⟨f0, f1, f2, f3, f4, f5, f6⟩ := M.res.seven_open
      have hB := M.below
      have R := M.res
      clear M
      go_wp2
      obtain ⟨j0, j1, j2, j3, j4, j5, j6⟩ := (R.set7 (.int .i64 y) (.int .i64 x) (.int .i64 z) (.bool q) (.bool p) (.bool r) (.bool t)).seven
      exact bodyPost_ret (v := V7 y x z q p r t) (by simp [results, Tryz.f61, go_sem, j0, j1, j2, j3, j4, j5, j6]) rfl ⟨rfl, below_set7 hB (by omega) _ _ _ _ _ _ _⟩

set_option maxRecDepth 100000 in
set_option maxHeartbeats 4000000 in
theorem turned_3 (x y z : Int) (p q r t : Bool) (w : World) :
    Calls Tryz.prog 61 #[V7 x y z p q r t, A3 1 2 0] w fun e W' => e = .returned (V7 y z x q r p t) ∧ Below w.heap.size w W' := by
  have M0 := Mid.start w (cells7 x y z p q r t) #[I 1, I 2, I 0]
  go_enter Tryz.func61, Tryz.ntmps61
  go_wp2
  go_loopw [10] (fun i wr => (i = .int .i64 0 ∧ Mid w (cells7 x y z p q r t) (cells7 x y z p q r t) wr) ∨ (i = .int .i64 1 ∧ Mid w (cells7 x y z p q r t) (cells7 y y z q q r t) wr) ∨ (i = .int .i64 2 ∧ Mid w (cells7 x y z p q r t) (cells7 y z z q r r t) wr) ∨ (i = .int .i64 3 ∧ Mid w (cells7 x y z p q r t) (cells7 y z x q r p t) wr)) (fun i _ => 3 - (RowKit.intOf i).toNat)
  case atStart => exact .inl ⟨rfl, M0⟩
  case round =>
    clear M0
    rcases hrel with ⟨rfl, M⟩ | ⟨rfl, M⟩ | ⟨rfl, M⟩ | ⟨rfl, M⟩
    · obtain ⟨s0, s1, s2, s3, s4, s5, s6⟩ := M.src.seven
      obtain ⟨d0, d1, d2, d3, d4, d5, d6⟩ := M.dst.seven
      obtain ⟨f0, f1, f2, f3, f4, f5, f6⟩ := M.dst.seven_open
      have M1 := (M.set 0 (.int .i64 y)).set 3 (.bool q)
      clear M
      go_wp2
      go_roundw
      case rel => exact .inr (.inl ⟨rfl, M1⟩)
      case measure => simp [RowKit.intOf]
    · obtain ⟨s0, s1, s2, s3, s4, s5, s6⟩ := M.src.seven
      obtain ⟨d0, d1, d2, d3, d4, d5, d6⟩ := M.dst.seven
      obtain ⟨f0, f1, f2, f3, f4, f5, f6⟩ := M.dst.seven_open
      have M1 := (M.set 1 (.int .i64 z)).set 4 (.bool r)
      clear M
      go_wp2
      go_roundw
      case rel => exact .inr (.inr (.inl ⟨rfl, M1⟩))
      case measure => simp [RowKit.intOf]
    · obtain ⟨s0, s1, s2, s3, s4, s5, s6⟩ := M.src.seven
      obtain ⟨d0, d1, d2, d3, d4, d5, d6⟩ := M.dst.seven
      obtain ⟨f0, f1, f2, f3, f4, f5, f6⟩ := M.dst.seven_open
      have M1 := (M.set 2 (.int .i64 x)).set 5 (.bool p)
      clear M
      go_wp2
      go_roundw
      case rel => exact .inr (.inr (.inr ⟨rfl, M1⟩))
      case measure => simp [RowKit.intOf]
    · obtain ⟨d0, d1, d2, d3, d4, d5, d6⟩ := M.dst.seven
      obtain ⟨c0, c1, c2, c3, c4, c5, c6⟩ := M.res.seven
      obtain ⟨f0, f1, f2, f3, f4, f5, f6⟩ := M.res.seven_open
      have hB := M.below
      have R := M.res
      clear M
      go_wp2
      obtain ⟨j0, j1, j2, j3, j4, j5, j6⟩ := (R.set7 (.int .i64 y) (.int .i64 z) (.int .i64 x) (.bool q) (.bool r) (.bool p) (.bool t)).seven
      exact bodyPost_ret (v := V7 y z x q r p t) (by simp [results, Tryz.f61, go_sem, j0, j1, j2, j3, j4, j5, j6]) rfl ⟨rfl, below_set7 hB (by omega) _ _ _ _ _ _ _⟩

set_option maxRecDepth 100000 in
set_option maxHeartbeats 4000000 in
theorem turned_4 (x y z : Int) (p q r t : Bool) (w : World) :
    Calls Tryz.prog 61 #[V7 x y z p q r t, A3 2 0 1] w fun e W' => e = .returned (V7 z x y r p q t) ∧ Below w.heap.size w W' := by
  have M0 := Mid.start w (cells7 x y z p q r t) #[I 2, I 0, I 1]
  go_enter Tryz.func61, Tryz.ntmps61
  go_wp2
  go_loopw [10] (fun i wr => (i = .int .i64 0 ∧ Mid w (cells7 x y z p q r t) (cells7 x y z p q r t) wr) ∨ (i = .int .i64 1 ∧ Mid w (cells7 x y z p q r t) (cells7 z y z r q r t) wr) ∨ (i = .int .i64 2 ∧ Mid w (cells7 x y z p q r t) (cells7 z x z r p r t) wr) ∨ (i = .int .i64 3 ∧ Mid w (cells7 x y z p q r t) (cells7 z x y r p q t) wr)) (fun i _ => 3 - (RowKit.intOf i).toNat)
  case atStart => exact .inl ⟨rfl, M0⟩
  case round =>
    clear M0
    rcases hrel with ⟨rfl, M⟩ | ⟨rfl, M⟩ | ⟨rfl, M⟩ | ⟨rfl, M⟩
    · obtain ⟨s0, s1, s2, s3, s4, s5, s6⟩ := M.src.seven
      obtain ⟨d0, d1, d2, d3, d4, d5, d6⟩ := M.dst.seven
      obtain ⟨f0, f1, f2, f3, f4, f5, f6⟩ := M.dst.seven_open
      have M1 := (M.set 0 (.int .i64 z)).set 3 (.bool r)
      clear M
      go_wp2
      go_roundw
      case rel => exact .inr (.inl ⟨rfl, M1⟩)
      case measure => simp [RowKit.intOf]
    · obtain ⟨s0, s1, s2, s3, s4, s5, s6⟩ := M.src.seven
      obtain ⟨d0, d1, d2, d3, d4, d5, d6⟩ := M.dst.seven
      obtain ⟨f0, f1, f2, f3, f4, f5, f6⟩ := M.dst.seven_open
      have M1 := (M.set 1 (.int .i64 x)).set 4 (.bool p)
      clear M
      go_wp2
      go_roundw
      case rel => exact .inr (.inr (.inl ⟨rfl, M1⟩))
      case measure => simp [RowKit.intOf]
    · obtain ⟨s0, s1, s2, s3, s4, s5, s6⟩ := M.src.seven
      obtain ⟨d0, d1, d2, d3, d4, d5, d6⟩ := M.dst.seven
      obtain ⟨f0, f1, f2, f3, f4, f5, f6⟩ := M.dst.seven_open
      have M1 := (M.set 2 (.int .i64 y)).set 5 (.bool q)
      clear M
      go_wp2
      go_roundw
      case rel => exact .inr (.inr (.inr ⟨rfl, M1⟩))
      case measure => simp [RowKit.intOf]
    · obtain ⟨d0, d1, d2, d3, d4, d5, d6⟩ := M.dst.seven
      obtain ⟨c0, c1, c2, c3, c4, c5, c6⟩ := M.res.seven
      obtain ⟨f0, f1, f2, f3, f4, f5, f6⟩ := M.res.seven_open
      have hB := M.below
      have R := M.res
      clear M
      go_wp2
      obtain ⟨j0, j1, j2, j3, j4, j5, j6⟩ := (R.set7 (.int .i64 z) (.int .i64 x) (.int .i64 y) (.bool r) (.bool p) (.bool q) (.bool t)).seven
      exact bodyPost_ret (v := V7 z x y r p q t) (by simp [results, Tryz.f61, go_sem, j0, j1, j2, j3, j4, j5, j6]) rfl ⟨rfl, below_set7 hB (by omega) _ _ _ _ _ _ _⟩

set_option maxRecDepth 100000 in
set_option maxHeartbeats 4000000 in
theorem turned_5 (x y z : Int) (p q r t : Bool) (w : World) :
    Calls Tryz.prog 61 #[V7 x y z p q r t, A3 2 1 0] w fun e W' => e = .returned (V7 z y x r q p t) ∧ Below w.heap.size w W' := by
  have M0 := Mid.start w (cells7 x y z p q r t) #[I 2, I 1, I 0]
  go_enter Tryz.func61, Tryz.ntmps61
  go_wp2
  go_loopw [10] (fun i wr => (i = .int .i64 0 ∧ Mid w (cells7 x y z p q r t) (cells7 x y z p q r t) wr) ∨ (i = .int .i64 1 ∧ Mid w (cells7 x y z p q r t) (cells7 z y z r q r t) wr) ∨ (i = .int .i64 2 ∧ Mid w (cells7 x y z p q r t) (cells7 z y z r q r t) wr) ∨ (i = .int .i64 3 ∧ Mid w (cells7 x y z p q r t) (cells7 z y x r q p t) wr)) (fun i _ => 3 - (RowKit.intOf i).toNat)
  case atStart => exact .inl ⟨rfl, M0⟩
  case round =>
    clear M0
    rcases hrel with ⟨rfl, M⟩ | ⟨rfl, M⟩ | ⟨rfl, M⟩ | ⟨rfl, M⟩
    · obtain ⟨s0, s1, s2, s3, s4, s5, s6⟩ := M.src.seven
      obtain ⟨d0, d1, d2, d3, d4, d5, d6⟩ := M.dst.seven
      obtain ⟨f0, f1, f2, f3, f4, f5, f6⟩ := M.dst.seven_open
      have M1 := (M.set 0 (.int .i64 z)).set 3 (.bool r)
      clear M
      go_wp2
      go_roundw
      case rel => exact .inr (.inl ⟨rfl, M1⟩)
      case measure => simp [RowKit.intOf]
    · obtain ⟨s0, s1, s2, s3, s4, s5, s6⟩ := M.src.seven
      obtain ⟨d0, d1, d2, d3, d4, d5, d6⟩ := M.dst.seven
      obtain ⟨f0, f1, f2, f3, f4, f5, f6⟩ := M.dst.seven_open
      have M1 := (M.set 1 (.int .i64 y)).set 4 (.bool q)
      clear M
      go_wp2
      go_roundw
      case rel => exact .inr (.inr (.inl ⟨rfl, M1⟩))
      case measure => simp [RowKit.intOf]
    · obtain ⟨s0, s1, s2, s3, s4, s5, s6⟩ := M.src.seven
      obtain ⟨d0, d1, d2, d3, d4, d5, d6⟩ := M.dst.seven
      obtain ⟨f0, f1, f2, f3, f4, f5, f6⟩ := M.dst.seven_open
      have M1 := (M.set 2 (.int .i64 x)).set 5 (.bool p)
      clear M
      go_wp2
      go_roundw
      case rel => exact .inr (.inr (.inr ⟨rfl, M1⟩))
      case measure => simp [RowKit.intOf]
    · obtain ⟨d0, d1, d2, d3, d4, d5, d6⟩ := M.dst.seven
      obtain ⟨c0, c1, c2, c3, c4, c5, c6⟩ := M.res.seven
      obtain ⟨f0, f1, f2, f3, f4, f5, f6⟩ := M.res.seven_open
      have hB := M.below
      have R := M.res
      clear M
      go_wp2
      obtain ⟨j0, j1, j2, j3, j4, j5, j6⟩ := (R.set7 (.int .i64 z) (.int .i64 y) (.int .i64 x) (.bool r) (.bool q) (.bool p) (.bool t)).seven
      exact bodyPost_ret (v := V7 z y x r q p t) (by simp [results, Tryz.f61, go_sem, j0, j1, j2, j3, j4, j5, j6]) rfl ⟨rfl, below_set7 hB (by omega) _ _ _ _ _ _ _⟩

end Go.Proofs.YtlahfffgmfjpaaaGreatDoor

/-
  Which of two comes first: turn.compare, and the document's less.
-/
namespace Go.Proofs.YtlahfffgmfjpaaaGreatDoor
open Go Go.RowKit Go.Shelf Go.Sort

attribute [local go_sem] Oper.semAt_some ext_const eq_ints_at eq_bools_at eq_wants ix0 ix1 ix2

def cmpI (x y : Int) : Int := if x < y then -1 else if y < x then 1 else 0
theorem cmpI_cases (x y : Int) : (x < y ∧ cmpI x y = -1) ∨ (y < x ∧ cmpI x y = 1) ∨ (x = y ∧ cmpI x y = 0) := by
  unfold cmpI
  by_cases h : x < y
  · simp [h]
  · by_cases k : y < x
    · simp [h, k]
    · simp [h, k]; omega
def ffT (p : Bool) : Int := if p then 1 else -1
def cmpT : Wt → Wt → Int
  | (x, y, z, p, q, r, _), (x', y', z', p', q', r', _) =>
    if cmpI x x' ≠ 0 then cmpI x x' else if cmpI y y' ≠ 0 then cmpI y y' else if cmpI z z' ≠ 0 then cmpI z z' else
    if p ≠ p' then ffT p else if q ≠ q' then ffT q else if r ≠ r' then ffT r else 0

set_option maxRecDepth 100000 in
theorem nan_calls (x : Int) (w : World) : Calls Tryz.prog 76 #[I x] w fun e W' => e = .returned (.bool false) ∧ W' = w := by
  go_enter Tryz.func76, Tryz.ntmps76
  go_wp2
  go_ret
  exact ⟨by simp, rfl⟩
set_option maxRecDepth 100000 in
set_option maxHeartbeats 1000000 in
theorem cmp_calls (x y : Int) (w : World) : Calls Tryz.prog 49 #[I x, I y] w fun e W' => e = .returned (.int .i64 (cmpI x y)) ∧ W' = w := by
  have hn := nan_calls
  rcases cmpI_cases x y with ⟨h, e⟩ | ⟨h, e⟩ | ⟨h, e⟩
  · rw [e]
    clear e
    go_enter Tryz.func49, Tryz.ntmps49
    go_wp2_with (go_at_call 76; refine (hn _ _).mono ?_; rintro e w' ⟨rfl, rfl⟩)
    go_ret
    exact ⟨rfl, rfl⟩
  · rw [e]
    clear e
    have h' : ¬ x < y := by omega
    go_enter Tryz.func49, Tryz.ntmps49
    go_wp2_with (go_at_call 76; refine (hn _ _).mono ?_; rintro e w' ⟨rfl, rfl⟩)
    go_ret
    exact ⟨rfl, rfl⟩
  · rw [e]
    clear e
    subst h
    go_enter Tryz.func49, Tryz.ntmps49
    go_wp2_with (go_at_call 76; refine (hn _ _).mono ?_; rintro e w' ⟨rfl, rfl⟩)
    go_ret
    exact ⟨rfl, rfl⟩
set_option maxRecDepth 100000 in
theorem ff_calls (p : Bool) (w : World) : Calls Tryz.prog 64 #[.bool p] w fun e W' => e = .returned (.int .i64 (ffT p)) ∧ W' = w := by
  cases p <;>
  · go_enter Tryz.func64, Tryz.ntmps64
    go_wp2
    go_ret
    exact ⟨rfl, rfl⟩
set_option maxRecDepth 100000 in
theorem flag_calls (p : Bool) (w : World) : Calls Tryz.prog 109 #[.bool p] w fun e W' => e = .returned (.int .i64 (bit p)) ∧ W' = w := by
  cases p <;>
  · go_enter Tryz.func109, Tryz.ntmps109
    go_wp2
    go_ret
    exact ⟨rfl, rfl⟩

/-- Worlds that a call came to by looking alone, two blocks laid first. -/
theorem two_grown (w : World) (o1 o2 : Obj) (n : Nat) : ((w.alloc o1).alloc o2).drewN n = grow (w.drewN n) #[o1, o2] := by
  rw [alloc_eq_grow, alloc_eq_grow, grow_grow]; rfl

theorem quiet_n {P : Program} {f : FuncId} {args : Array Value} {W : World} {n a : Nat} {v : Value} (h : Calls P f args (W.drewN (n + a)) fun e w' => e = .returned v ∧ w' = W.drewN (n + a)) :
    Calls P f args (W.drewN (n + a)) fun e w'' => e = .returned v ∧ ∃ m, w'' = W.drewN (n + m) := h.mono fun _ _ ⟨he, hm⟩ => ⟨he, a, hm⟩

set_option maxRecDepth 100000 in
set_option maxHeartbeats 4000000 in
theorem compare_calls (x y z : Int) (p q r t : Bool) (x' y' z' : Int) (p' q' r' t' : Bool) (w : World) :
    Calls Tryz.prog 38 #[V7 x y z p q r t, V7 x' y' z' p' q' r' t'] w fun e W' => e = .returned (.int .i64 (cmpT (x, y, z, p, q, r, t) (x', y', z', p', q', r', t'))) ∧ ∃ n os, W' = grow (w.drewN n) os := by
  obtain ⟨W, hW⟩ : ∃ W, (w.alloc (.cells (cells7 x y z p q r t) 26)).alloc (.cells (cells7 x' y' z' p' q' r' t') 26) = W := ⟨_, rfl⟩
  have HG : Hid (∀ n, ∃ m os, W.drewN n = grow (w.drewN m) os) := fun n => ⟨n, _, by rw [← hW, two_grown]⟩
  have b0 : Blk W w.heap.size 26 (cells7 x y z p q r t) := by rw [← hW]; exact (Blk.new w _ _).alloc _
  have b1 : Blk W (w.heap.size + 1) 26 (cells7 x' y' z' p' q' r' t') := by
    rw [← hW]
    have := Blk.new (w.alloc (.cells (cells7 x y z p q r t) 26)) 26 (cells7 x' y' z' p' q' r' t')
    simpa using this
  obtain ⟨s0, s1, s2, s3, s4, s5, _⟩ := b0.seven
  obtain ⟨d0, d1, d2, d3, d4, d5, _⟩ := b1.seven
  clear b0 b1
  have hc := cmp_calls
  have hf := ff_calls
  have HA : Hid (cmpT (x, y, z, p, q, r, t) (x', y', z', p', q', r', t') = if cmpI x x' ≠ 0 then cmpI x x' else if cmpI y y' ≠ 0 then cmpI y y' else if cmpI z z' ≠ 0 then cmpI z z' else if p ≠ p' then ffT p else if q ≠ q' then ffT q else if r ≠ r' then ffT r else 0) := rfl
  generalize cmpT (x, y, z, p, q, r, t) (x', y', z', p', q', r', t') = ans at HA ⊢
  have HW : Hid ((w.alloc (.cells (cells7 x y z p q r t) 26)).alloc (.cells (cells7 x' y' z' p' q' r' t') 26) = W) := hW
  clear hW
  go_enter Tryz.func38, Tryz.ntmps38
  go_wp2
  rw [HW.out]
  go_loopw [8] (fun i wr => ∃ n, wr = W.drewN n ∧ (i = .int .i64 0 ∨ (i = .int .i64 1 ∧ Hid (cmpI x x' = 0)) ∨ (i = .int .i64 2 ∧ Hid (cmpI x x' = 0 ∧ cmpI y y' = 0)) ∨ (i = .int .i64 3 ∧ Hid (cmpI x x' = 0 ∧ cmpI y y' = 0 ∧ cmpI z z' = 0)))) (fun i _ => 3 - (RowKit.intOf i).toNat)
  case atStart => exact ⟨0, rfl, .inl rfl⟩
  case round =>
    obtain ⟨n, rfl, hrel⟩ := hrel
    rcases hrel with rfl | ⟨rfl, H0⟩ | ⟨rfl, H0⟩ | ⟨rfl, H0⟩
    · have hcc := fun w => hc x x' w
      have HQ : Hid (cmpI x x' ≠ 0 → ans = cmpI x x') := fun hq => by rw [HA.out]; simp [hq]
      by_cases hq : cmpI x x' = 0
      · have HN : Hid ((cmpI x x' = 0)) := hq
        rw [hq] at hcc
        clear hq HQ
        go_wp2
        go_quiet ((go_at_call 49; exact quiet_n (hcc _)))
        go_wp2
        go_roundw
        case rel => exact ⟨_, rfl, .inr (.inl ⟨rfl, HN⟩)⟩
        case measure => simp [RowKit.intOf]
      · have hans := HQ.out hq
        rw [← hans] at hcc hq
        have hq' : (ans != 0) = true := by simpa using hq
        clear HQ hans hq
        go_wp2
        go_quiet ((go_at_call 49; exact quiet_n (hcc _)))
        go_wp2
        go_ret
        exact ⟨rfl, HG.out _⟩
    · have hcc := fun w => hc y y' w
      have HQ : Hid (cmpI y y' ≠ 0 → ans = cmpI y y') := fun hq => by rw [HA.out]; simp [H0.out, hq]
      by_cases hq : cmpI y y' = 0
      · have HN : Hid ((cmpI x x' = 0 ∧ cmpI y y' = 0)) := ⟨H0.out, hq⟩
        rw [hq] at hcc
        clear hq HQ
        go_wp2
        go_quiet ((go_at_call 49; exact quiet_n (hcc _)))
        go_wp2
        go_roundw
        case rel => exact ⟨_, rfl, .inr (.inr (.inl ⟨rfl, HN⟩))⟩
        case measure => simp [RowKit.intOf]
      · have hans := HQ.out hq
        rw [← hans] at hcc hq
        have hq' : (ans != 0) = true := by simpa using hq
        clear HQ hans hq
        go_wp2
        go_quiet ((go_at_call 49; exact quiet_n (hcc _)))
        go_wp2
        go_ret
        exact ⟨rfl, HG.out _⟩
    · have hcc := fun w => hc z z' w
      have HQ : Hid (cmpI z z' ≠ 0 → ans = cmpI z z') := fun hq => by rw [HA.out]; simp [H0.out.1, H0.out.2, hq]
      by_cases hq : cmpI z z' = 0
      · have HN : Hid ((cmpI x x' = 0 ∧ cmpI y y' = 0 ∧ cmpI z z' = 0)) := ⟨H0.out.1, H0.out.2, hq⟩
        rw [hq] at hcc
        clear hq HQ
        go_wp2
        go_quiet ((go_at_call 49; exact quiet_n (hcc _)))
        go_wp2
        go_roundw
        case rel => exact ⟨_, rfl, .inr (.inr (.inr ⟨rfl, HN⟩))⟩
        case measure => simp [RowKit.intOf]
      · have hans := HQ.out hq
        rw [← hans] at hcc hq
        have hq' : (ans != 0) = true := by simpa using hq
        clear HQ hans hq
        go_wp2
        go_quiet ((go_at_call 49; exact quiet_n (hcc _)))
        go_wp2
        go_ret
        exact ⟨rfl, HG.out _⟩
    · go_wp2
      clear hc
      go_loopw [24] (fun i wr => ∃ n, wr = W.drewN n ∧ (i = .int .i64 0 ∨ (i = .int .i64 1 ∧ Hid (p = p')) ∨ (i = .int .i64 2 ∧ Hid (p = p' ∧ q = q')) ∨ (i = .int .i64 3 ∧ Hid (p = p' ∧ q = q' ∧ r = r')))) (fun i _ => 3 - (RowKit.intOf i).toNat)
      case atStart => exact ⟨n, rfl, .inl rfl⟩
      case round =>
        obtain ⟨n, rfl, hrel⟩ := hrel
        obtain ⟨E0, E1, E2⟩ := H0.out
        rcases hrel with rfl | ⟨rfl, H1⟩ | ⟨rfl, H1⟩ | ⟨rfl, H1⟩
        · have HQ : Hid (p ≠ p' → ans = ffT p) := fun hq => by rw [HA.out]; simp [E0, E1, E2, hq]
          have hff := fun w => hf p w
          clear E0 E1 E2
          by_cases hq : p = p'
          · have HN : Hid (p = p') := hq
            have hq' : (p == p') = true := by simpa using hq
            clear hq HQ hf hff
            go_wp2
            go_quiet (fail)
            go_wp2
            go_roundw
            case rel => exact ⟨_, rfl, .inr (.inl ⟨rfl, HN⟩)⟩
            case measure => simp [RowKit.intOf]
          · have hans := HQ.out hq
            rw [← hans] at hff
            have hq' : (p == p') = false := by simpa using hq
            clear HQ hans hq
            go_wp2
            go_quiet (fail)
            go_wp2_with (go_at_call 64; refine (hff _).mono ?_; rintro e w' ⟨rfl, rfl⟩)
            go_ret
            exact ⟨rfl, HG.out _⟩
        · have HQ : Hid (q ≠ q' → ans = ffT q) := fun hq => by rw [HA.out]; simp [E0, E1, E2, H1.out, hq]
          have hff := fun w => hf q w
          clear E0 E1 E2
          by_cases hq : q = q'
          · have HN : Hid (p = p' ∧ q = q') := ⟨H1.out, hq⟩
            have hq' : (q == q') = true := by simpa using hq
            clear hq HQ hf hff
            go_wp2
            go_quiet (fail)
            go_wp2
            go_roundw
            case rel => exact ⟨_, rfl, .inr (.inr (.inl ⟨rfl, HN⟩))⟩
            case measure => simp [RowKit.intOf]
          · have hans := HQ.out hq
            rw [← hans] at hff
            have hq' : (q == q') = false := by simpa using hq
            clear HQ hans hq
            go_wp2
            go_quiet (fail)
            go_wp2_with (go_at_call 64; refine (hff _).mono ?_; rintro e w' ⟨rfl, rfl⟩)
            go_ret
            exact ⟨rfl, HG.out _⟩
        · have HQ : Hid (r ≠ r' → ans = ffT r) := fun hq => by rw [HA.out]; simp [E0, E1, E2, H1.out.1, H1.out.2, hq]
          have hff := fun w => hf r w
          clear E0 E1 E2
          by_cases hq : r = r'
          · have HN : Hid (p = p' ∧ q = q' ∧ r = r') := ⟨H1.out.1, H1.out.2, hq⟩
            have hq' : (r == r') = true := by simpa using hq
            clear hq HQ hf hff
            go_wp2
            go_quiet (fail)
            go_wp2
            go_roundw
            case rel => exact ⟨_, rfl, .inr (.inr (.inr ⟨rfl, HN⟩))⟩
            case measure => simp [RowKit.intOf]
          · have hans := HQ.out hq
            rw [← hans] at hff
            have hq' : (r == r') = false := by simpa using hq
            clear HQ hans hq
            go_wp2
            go_quiet (fail)
            go_wp2_with (go_at_call 64; refine (hff _).mono ?_; rintro e w' ⟨rfl, rfl⟩)
            go_ret
            exact ⟨rfl, HG.out _⟩
        · obtain rfl : ans = 0 := by
            obtain ⟨F0, F1, F2⟩ := H1.out
            rw [HA.out]; simp [E0, E1, E2, F0, F1, F2]
          clear E0 E1 E2
          go_wp2
          go_ret
          exact ⟨rfl, HG.out _⟩

end Go.Proofs.YtlahfffgmfjpaaaGreatDoor

/-
  wire.Line, wire.Run: the cables of a line, and those that a run takes, rising, in new memory; for every input.
-/
import Derived.Test.YtbbddolalglmnaaWireRising
import Derived.Test.YtbbddolalglmnaaWireSorted
import Derived.Test.YtbbddolalglmnaaLoud
namespace Go.Proofs.Ytbbddolalglmnaa
open Go Go.RowKit Go.Shelf

attribute [local go_sem] Oper.semAt_some ext_const

/-- A line that is handed out, wherever its three variables lie. -/
def IsLine (d0 d1 d2 axis m : Int) (v : Value) (w : World) : Prop :=
  ∃ B : Nat, v = .func (.func 44) #[] #[.pointer (some ⟨B, 0, none⟩), .pointer (some ⟨B + 1, 0, none⟩), .pointer (some ⟨B + 1 + 1, 0, none⟩)] ∧
    Blk w B 26 #[I d0, I d1, I d2] ∧ Blk w (B + 1) 3 #[I axis] ∧ Blk w (B + 1 + 1) 3 #[I m]
theorem IsLine.later {d0 d1 d2 axis m : Int} {v : Value} {w w' : World} (h : IsLine d0 d1 d2 axis m v w) (hB : Below w.heap.size w w') : IsLine d0 d1 d2 axis m v w' := by
  obtain ⟨B, e, h0, h1, h2⟩ := h
  exact ⟨B, e, h0.later hB, h1.later hB, h2.later hB⟩

theorem line_is (d0 d1 d2 axis m : Int) (w : World) :
    Calls Try.prog 28 #[A3 d0 d1 d2, I axis, I m] w fun e w' => ∃ v, e = .returned v ∧ Below w.heap.size w w' ∧ IsLine d0 d1 d2 axis m v w' := by
  refine (line_calls d0 d1 d2 axis m w).mono ?_
  rintro e w' ⟨rfl, rfl⟩
  refine ⟨_, rfl, (((Below.refl _ w).alloc (Nat.le_refl _) _).alloc (by simp) _).alloc (by simp; omega) _, w.heap.size, rfl, ((Blk.new w _ _).alloc _).alloc _, ?_, ?_⟩
  · have := (Blk.new (w.alloc (.cells #[I d0, I d1, I d2] 26)) 3 #[I axis]).alloc (.cells #[I m] 3)
    simpa using this
  · have := Blk.new ((w.alloc (.cells #[I d0, I d1, I d2] 26)).alloc (.cells #[I axis] 3)) 3 #[I m]
    simpa using this

/-- wire.rising over a line. -/
theorem rising_is {d0 d1 d2 m z : Int} (hm : mayD d0 d1 d2) (hn : 0 ≤ m ∧ m < d0 * d1 * d2) (k : Fin 3) (hz : 0 ≤ z ∧ z ≤ dimAt d0 d1 d2 k) {v : Value} (w : World) (hv : IsLine d0 d1 d2 (axI k) m v w) :
    Calls Try.prog 27 #[v, I z] w fun e W' => ∃ u, e = .returned u ∧ Lst W' w.heap.size u (cablesW d0 d1 d2 m k z.toNat) ∧ Below w.heap.size w W' := by
  obtain ⟨B, rfl, h0, h1, h2⟩ := hv
  obtain ⟨mo, rfl⟩ : ∃ mo : Nat, z = (mo : Int) := ⟨z.toNat, by omega⟩
  have hk := dimAt_ok hm k
  unfold okD at hk
  refine (rising_calls hm hn k mo (by omega) B (B + 1) (B + 1 + 1) w h0.lt h1.lt h2.lt h0 h1 h2).mono ?_
  rintro e W' ⟨u, rfl, hL, hB⟩
  rw [sort_out hm hn k (by omega)] at hL
  exact ⟨u, rfl, by rw [Int.toNat_natCast]; exact hL, hB⟩

set_option maxHeartbeats 400000 in
theorem wline_ref {d0 d1 d2 axis m e : Int} (w : World) (h : Refused d0 d1 d2 axis m e) :
    Calls Try.prog 18 #[A3 d0 d1 d2, I axis, I m] w fun x W' => x = .returned (.tuple #[.slice none 0 0, I e]) ∧ Below w.heap.size w W' := by
  have he := h.ne
  have H : Hid (Refused d0 d1 d2 axis m e) := h
  clear h
  go_enter Try.func18, Try.ntmps18
  go_wp2_with fail
  refine (checkl_ref _ H.out).mono ?_
  rintro x w1 ⟨rfl, hB⟩
  go_wp2
  go_ret2
  exact ⟨rfl, then_below ((Below.refl _ w).alloc (Nat.le_refl _) _) hB⟩

set_option maxHeartbeats 400000 in
theorem wrun_ref {d0 d1 d2 axis m e : Int} (long : Int) (torus : Bool) (w : World) (h : Refused d0 d1 d2 axis m e) :
    Calls Try.prog 11 #[A3 d0 d1 d2, I axis, I m, I long, .bool torus] w fun x W' => x = .returned (.tuple #[.slice none 0 0, I e]) ∧ Below w.heap.size w W' := by
  have he := h.ne
  have H : Hid (Refused d0 d1 d2 axis m e) := h
  clear h
  go_enter Try.func11, Try.ntmps11
  go_wp2_with fail
  refine (checkl_ref _ H.out).mono ?_
  rintro x w1 ⟨rfl, hB⟩
  go_wp2
  go_ret2
  exact ⟨rfl, then_below ((Below.refl _ w).alloc (Nat.le_refl _) _) hB⟩

/-- What each operation of wire.Line's last statement keeps. -/
def wordL (d0 d1 d2 m axis dim : Int) (Bn off base : Nat) (X : List Int) (i : Nat) (v : Value) (w : World) : Prop :=
  match i with
  | 0 => v = A3 d0 d1 d2
  | 1 => v = I axis
  | 2 => v = I m
  | 3 => IsLine d0 d1 d2 axis m v w
  | 4 => v = I axis
  | 5 => v = .pointer (some ⟨Bn, off, none⟩)
  | 6 => v = I dim
  | 7 => Lst w base v X
  | 8 => Lst w base v X
  | 9 => v = I 0
  | _ => False
theorem wordL_later {d0 d1 d2 m axis dim : Int} {Bn off base : Nat} {X : List Int} (i : Nat) (v : Value) (w w' : World) (h : wordL d0 d1 d2 m axis dim Bn off base X i v w) (hB : Below w.heap.size w w') : wordL d0 d1 d2 m axis dim Bn off base X i v w' := by
  match i, h with
  | 0, h => exact h
  | 1, h => exact h
  | 2, h => exact h
  | 3, h => exact h.later hB
  | 4, h => exact h
  | 5, h => exact h
  | 6, h => exact h
  | 7, h => exact h.later hB
  | 8, h => exact h.later hB
  | 9, h => exact h
  | n + 10, h => exact h.elim

set_option maxRecDepth 100000 in
set_option maxHeartbeats 4000000 in
theorem wline_yes {d0 d1 d2 axis m : Int} (w : World) (hm : mayD d0 d1 d2) (hn : 0 ≤ m ∧ m < d0 * d1 * d2) {k : Fin 3} (hk : axis = axI k) :
    Calls Try.prog 18 #[A3 d0 d1 d2, I axis, I m] w fun e W' => ∃ v, e = .returned (.tuple #[v, I 0]) ∧ Lst W' w.heap.size v (cablesW d0 d1 d2 m k (dimAt d0 d1 d2 k).toNat) ∧ Below w.heap.size w W' := by
  have hmx : Try.prog.follows .mixedOrders = true := by kernel_rfl
  subst hk
  have hok := dimAt_ok hm k
  unfold okD at hok
  have HC : Hid (∀ w, Calls Try.prog 24 #[A3 d0 d1 d2, I (axI k), I m] w fun x W' => x = .returned (I 0) ∧ Below w.heap.size w W') := fun w => checkl_yes w hm hn rfl
  have HR : Hid (∀ v w, IsLine d0 d1 d2 (axI k) m v w → Calls Try.prog 27 #[v, I (dimAt d0 d1 d2 k)] w fun e W' => ∃ u, e = .returned u ∧ Lst W' w.heap.size u (cablesW d0 d1 d2 m k (dimAt d0 d1 d2 k).toNat) ∧ Below w.heap.size w W') := fun v w hv => rising_is hm hn k (by omega) w hv
  generalize cablesW d0 d1 d2 m k (dimAt d0 d1 d2 k).toNat = X at *
  clear hn
  rcases fin3 k with rfl | rfl | rfl
  · simp only [axI, dimAt] at *
    go_enter Try.func18, Try.ntmps18
    go_wp2_with fail
    refine (HC.out _).mono ?_
    rintro x w1 ⟨rfl, hB⟩
    have g0 := (Blk.new w 26 #[I d0, I d1, I d2]).later hB
    have hB1 := then_below ((Below.refl _ w).alloc (Nat.le_refl _) (.cells #[I d0, I d1, I d2] 26)) hB
    clear hB
    go_wp2_with fail
    refine wp_region_loud (w0 := w1) (wordL d0 d1 d2 m 0 d0 w.heap.size 0 w1.heap.size X) hmx (by kernel_rfl) wordL_later ?_ ?_
    · intro i o hi a w' hT hL hpre
      have t1 : a.tmps.getD 1 undef = I 0 := by
        rw [Array.getD_eq_getD_getElem?, hL.out 1 (of_decide_eq_true (by kernel_rfl))]; rfl
      have t2 : a.tmps.getD 2 undef = I m := by
        rw [Array.getD_eq_getD_getElem?, hL.out 2 (of_decide_eq_true (by kernel_rfl))]; rfl
      have t3 : a.tmps.getD 3 undef = .pointer (some ⟨w.heap.size, 0, none⟩) := by
        rw [Array.getD_eq_getD_getElem?, hL.out 3 (of_decide_eq_true (by kernel_rfl))]; rfl
      obtain ⟨c0, c1, c2, hz⟩ := g0.three hT
      clear hL
      match i, hi with
      | 0, hi =>
        obtain rfl := Option.some.inj hi
        refine .inl ⟨A3 d0 d1 d2, ?_, rfl⟩
        simp [execOp, go_sem, Act.eval, t3, c0, c1, c2]
      | 1, hi =>
        obtain rfl := Option.some.inj hi
        refine .inl ⟨I 0, ?_, rfl⟩
        simp [execOp, go_sem, Act.eval, t1]
      | 2, hi =>
        obtain rfl := Option.some.inj hi
        refine .inl ⟨I m, ?_, rfl⟩
        simp [execOp, go_sem, Act.eval, t2]
      | 3, hi =>
        obtain rfl := Option.some.inj hi
        have p0 : a.tmps.getD 16 undef = A3 d0 d1 d2 := hpre ⟨0, .data⟩ (by simp) rfl
        have p1 : a.tmps.getD 17 undef = I 0 := hpre ⟨1, .data⟩ (by simp) rfl
        have p2 : a.tmps.getD 18 undef = I m := hpre ⟨2, .data⟩ (by simp) rfl
        refine .inr ⟨28, #[A3 d0 d1 d2, I 0, I m], ?_, ?_⟩
        · simp [go_sem, Act.eval, p0, p1, p2]
        · exact line_is d0 d1 d2 0 m w'
      | 4, hi =>
        obtain rfl := Option.some.inj hi
        refine .inl ⟨I 0, ?_, rfl⟩
        simp [execOp, go_sem, Act.eval, t1]
      | 5, hi =>
        obtain rfl := Option.some.inj hi
        have p0 : a.tmps.getD 20 undef = I 0 := hpre ⟨4, .data⟩ (by simp) rfl
        refine .inl ⟨.pointer (some ⟨w.heap.size, 0, none⟩), ?_, rfl⟩
        simp [execOp, go_sem, Act.eval, t3, p0]
      | 6, hi =>
        obtain rfl := Option.some.inj hi
        have p0 : a.tmps.getD 21 undef = .pointer (some ⟨w.heap.size, 0, none⟩) := hpre ⟨5, .data⟩ (by simp) rfl
        refine .inl ⟨I d0, ?_, rfl⟩
        simp [execOp, go_sem, Act.eval, p0, c0]
      | 7, hi =>
        obtain rfl := Option.some.inj hi
        have p0 : IsLine d0 d1 d2 0 m (a.tmps.getD 19 undef) w' := hpre ⟨3, .data⟩ (by simp) rfl
        have p1 : a.tmps.getD 22 undef = I d0 := hpre ⟨6, .data⟩ (by simp) rfl
        refine .inr ⟨27, #[a.tmps.getD 19 undef, I d0], ?_, ?_⟩
        · simp [go_sem, Act.eval, p1]
        · refine (HR.out _ w' p0).mono ?_
          rintro e w'' ⟨v, rfl, hl, hB⟩
          exact ⟨_, rfl, hB, hl.weak hT.size⟩
      | 8, hi =>
        obtain rfl := Option.some.inj hi
        have p0 : Lst w' w1.heap.size (a.tmps.getD 23 undef) X := hpre ⟨7, .data⟩ (by simp) rfl
        refine .inl ⟨a.tmps.getD 23 undef, ?_, p0⟩
        simp [execOp, go_sem, Act.eval]
      | 9, hi =>
        obtain rfl := Option.some.inj hi
        refine .inl ⟨I 0, ?_, rfl⟩
        simp [execOp, go_sem, Act.eval]
      | n + 10, hi => simp at hi
    · intro v w' hT hall
      have hX : Lst w' w1.heap.size (v 8) X := hall 8 (of_decide_eq_true (by kernel_rfl))
      have h9 : v 9 = I 0 := hall 9 (of_decide_eq_true (by kernel_rfl))
      clear hall
      simp only [List.length_cons, List.length_nil, Nat.zero_add, Nat.reduceAdd, List.range, List.range.loop, List.foldl_cons, List.foldl_nil, dstOf, List.getElem?_cons_zero, List.getElem?_cons_succ, Option.getD_some, Act.put, h9, List.setIfInBounds_toArray, List.set_cons_succ, List.set_cons_zero]
      go_wp2
      go_ret2
      exact ⟨_, rfl, hX.weak hB1.size, then_below hB1 hT⟩
  · simp only [axI, dimAt] at *
    go_enter Try.func18, Try.ntmps18
    go_wp2_with fail
    refine (HC.out _).mono ?_
    rintro x w1 ⟨rfl, hB⟩
    have g0 := (Blk.new w 26 #[I d0, I d1, I d2]).later hB
    have hB1 := then_below ((Below.refl _ w).alloc (Nat.le_refl _) (.cells #[I d0, I d1, I d2] 26)) hB
    clear hB
    go_wp2_with fail
    refine wp_region_loud (w0 := w1) (wordL d0 d1 d2 m 1 d1 w.heap.size 1 w1.heap.size X) hmx (by kernel_rfl) wordL_later ?_ ?_
    · intro i o hi a w' hT hL hpre
      have t1 : a.tmps.getD 1 undef = I 1 := by
        rw [Array.getD_eq_getD_getElem?, hL.out 1 (of_decide_eq_true (by kernel_rfl))]; rfl
      have t2 : a.tmps.getD 2 undef = I m := by
        rw [Array.getD_eq_getD_getElem?, hL.out 2 (of_decide_eq_true (by kernel_rfl))]; rfl
      have t3 : a.tmps.getD 3 undef = .pointer (some ⟨w.heap.size, 0, none⟩) := by
        rw [Array.getD_eq_getD_getElem?, hL.out 3 (of_decide_eq_true (by kernel_rfl))]; rfl
      obtain ⟨c0, c1, c2, hz⟩ := g0.three hT
      clear hL
      match i, hi with
      | 0, hi =>
        obtain rfl := Option.some.inj hi
        refine .inl ⟨A3 d0 d1 d2, ?_, rfl⟩
        simp [execOp, go_sem, Act.eval, t3, c0, c1, c2]
      | 1, hi =>
        obtain rfl := Option.some.inj hi
        refine .inl ⟨I 1, ?_, rfl⟩
        simp [execOp, go_sem, Act.eval, t1]
      | 2, hi =>
        obtain rfl := Option.some.inj hi
        refine .inl ⟨I m, ?_, rfl⟩
        simp [execOp, go_sem, Act.eval, t2]
      | 3, hi =>
        obtain rfl := Option.some.inj hi
        have p0 : a.tmps.getD 16 undef = A3 d0 d1 d2 := hpre ⟨0, .data⟩ (by simp) rfl
        have p1 : a.tmps.getD 17 undef = I 1 := hpre ⟨1, .data⟩ (by simp) rfl
        have p2 : a.tmps.getD 18 undef = I m := hpre ⟨2, .data⟩ (by simp) rfl
        refine .inr ⟨28, #[A3 d0 d1 d2, I 1, I m], ?_, ?_⟩
        · simp [go_sem, Act.eval, p0, p1, p2]
        · exact line_is d0 d1 d2 1 m w'
      | 4, hi =>
        obtain rfl := Option.some.inj hi
        refine .inl ⟨I 1, ?_, rfl⟩
        simp [execOp, go_sem, Act.eval, t1]
      | 5, hi =>
        obtain rfl := Option.some.inj hi
        have p0 : a.tmps.getD 20 undef = I 1 := hpre ⟨4, .data⟩ (by simp) rfl
        refine .inl ⟨.pointer (some ⟨w.heap.size, 1, none⟩), ?_, rfl⟩
        simp [execOp, go_sem, Act.eval, t3, p0]
      | 6, hi =>
        obtain rfl := Option.some.inj hi
        have p0 : a.tmps.getD 21 undef = .pointer (some ⟨w.heap.size, 1, none⟩) := hpre ⟨5, .data⟩ (by simp) rfl
        refine .inl ⟨I d1, ?_, rfl⟩
        simp [execOp, go_sem, Act.eval, p0, c1]
      | 7, hi =>
        obtain rfl := Option.some.inj hi
        have p0 : IsLine d0 d1 d2 1 m (a.tmps.getD 19 undef) w' := hpre ⟨3, .data⟩ (by simp) rfl
        have p1 : a.tmps.getD 22 undef = I d1 := hpre ⟨6, .data⟩ (by simp) rfl
        refine .inr ⟨27, #[a.tmps.getD 19 undef, I d1], ?_, ?_⟩
        · simp [go_sem, Act.eval, p1]
        · refine (HR.out _ w' p0).mono ?_
          rintro e w'' ⟨v, rfl, hl, hB⟩
          exact ⟨_, rfl, hB, hl.weak hT.size⟩
      | 8, hi =>
        obtain rfl := Option.some.inj hi
        have p0 : Lst w' w1.heap.size (a.tmps.getD 23 undef) X := hpre ⟨7, .data⟩ (by simp) rfl
        refine .inl ⟨a.tmps.getD 23 undef, ?_, p0⟩
        simp [execOp, go_sem, Act.eval]
      | 9, hi =>
        obtain rfl := Option.some.inj hi
        refine .inl ⟨I 0, ?_, rfl⟩
        simp [execOp, go_sem, Act.eval]
      | n + 10, hi => simp at hi
    · intro v w' hT hall
      have hX : Lst w' w1.heap.size (v 8) X := hall 8 (of_decide_eq_true (by kernel_rfl))
      have h9 : v 9 = I 0 := hall 9 (of_decide_eq_true (by kernel_rfl))
      clear hall
      simp only [List.length_cons, List.length_nil, Nat.zero_add, Nat.reduceAdd, List.range, List.range.loop, List.foldl_cons, List.foldl_nil, dstOf, List.getElem?_cons_zero, List.getElem?_cons_succ, Option.getD_some, Act.put, h9, List.setIfInBounds_toArray, List.set_cons_succ, List.set_cons_zero]
      go_wp2
      go_ret2
      exact ⟨_, rfl, hX.weak hB1.size, then_below hB1 hT⟩
  · simp only [axI, dimAt] at *
    go_enter Try.func18, Try.ntmps18
    go_wp2_with fail
    refine (HC.out _).mono ?_
    rintro x w1 ⟨rfl, hB⟩
    have g0 := (Blk.new w 26 #[I d0, I d1, I d2]).later hB
    have hB1 := then_below ((Below.refl _ w).alloc (Nat.le_refl _) (.cells #[I d0, I d1, I d2] 26)) hB
    clear hB
    go_wp2_with fail
    refine wp_region_loud (w0 := w1) (wordL d0 d1 d2 m 2 d2 w.heap.size 2 w1.heap.size X) hmx (by kernel_rfl) wordL_later ?_ ?_
    · intro i o hi a w' hT hL hpre
      have t1 : a.tmps.getD 1 undef = I 2 := by
        rw [Array.getD_eq_getD_getElem?, hL.out 1 (of_decide_eq_true (by kernel_rfl))]; rfl
      have t2 : a.tmps.getD 2 undef = I m := by
        rw [Array.getD_eq_getD_getElem?, hL.out 2 (of_decide_eq_true (by kernel_rfl))]; rfl
      have t3 : a.tmps.getD 3 undef = .pointer (some ⟨w.heap.size, 0, none⟩) := by
        rw [Array.getD_eq_getD_getElem?, hL.out 3 (of_decide_eq_true (by kernel_rfl))]; rfl
      obtain ⟨c0, c1, c2, hz⟩ := g0.three hT
      clear hL
      match i, hi with
      | 0, hi =>
        obtain rfl := Option.some.inj hi
        refine .inl ⟨A3 d0 d1 d2, ?_, rfl⟩
        simp [execOp, go_sem, Act.eval, t3, c0, c1, c2]
      | 1, hi =>
        obtain rfl := Option.some.inj hi
        refine .inl ⟨I 2, ?_, rfl⟩
        simp [execOp, go_sem, Act.eval, t1]
      | 2, hi =>
        obtain rfl := Option.some.inj hi
        refine .inl ⟨I m, ?_, rfl⟩
        simp [execOp, go_sem, Act.eval, t2]
      | 3, hi =>
        obtain rfl := Option.some.inj hi
        have p0 : a.tmps.getD 16 undef = A3 d0 d1 d2 := hpre ⟨0, .data⟩ (by simp) rfl
        have p1 : a.tmps.getD 17 undef = I 2 := hpre ⟨1, .data⟩ (by simp) rfl
        have p2 : a.tmps.getD 18 undef = I m := hpre ⟨2, .data⟩ (by simp) rfl
        refine .inr ⟨28, #[A3 d0 d1 d2, I 2, I m], ?_, ?_⟩
        · simp [go_sem, Act.eval, p0, p1, p2]
        · exact line_is d0 d1 d2 2 m w'
      | 4, hi =>
        obtain rfl := Option.some.inj hi
        refine .inl ⟨I 2, ?_, rfl⟩
        simp [execOp, go_sem, Act.eval, t1]
      | 5, hi =>
        obtain rfl := Option.some.inj hi
        have p0 : a.tmps.getD 20 undef = I 2 := hpre ⟨4, .data⟩ (by simp) rfl
        refine .inl ⟨.pointer (some ⟨w.heap.size, 2, none⟩), ?_, rfl⟩
        simp [execOp, go_sem, Act.eval, t3, p0]
      | 6, hi =>
        obtain rfl := Option.some.inj hi
        have p0 : a.tmps.getD 21 undef = .pointer (some ⟨w.heap.size, 2, none⟩) := hpre ⟨5, .data⟩ (by simp) rfl
        refine .inl ⟨I d2, ?_, rfl⟩
        simp [execOp, go_sem, Act.eval, p0, c2]
      | 7, hi =>
        obtain rfl := Option.some.inj hi
        have p0 : IsLine d0 d1 d2 2 m (a.tmps.getD 19 undef) w' := hpre ⟨3, .data⟩ (by simp) rfl
        have p1 : a.tmps.getD 22 undef = I d2 := hpre ⟨6, .data⟩ (by simp) rfl
        refine .inr ⟨27, #[a.tmps.getD 19 undef, I d2], ?_, ?_⟩
        · simp [go_sem, Act.eval, p1]
        · refine (HR.out _ w' p0).mono ?_
          rintro e w'' ⟨v, rfl, hl, hB⟩
          exact ⟨_, rfl, hB, hl.weak hT.size⟩
      | 8, hi =>
        obtain rfl := Option.some.inj hi
        have p0 : Lst w' w1.heap.size (a.tmps.getD 23 undef) X := hpre ⟨7, .data⟩ (by simp) rfl
        refine .inl ⟨a.tmps.getD 23 undef, ?_, p0⟩
        simp [execOp, go_sem, Act.eval]
      | 9, hi =>
        obtain rfl := Option.some.inj hi
        refine .inl ⟨I 0, ?_, rfl⟩
        simp [execOp, go_sem, Act.eval]
      | n + 10, hi => simp at hi
    · intro v w' hT hall
      have hX : Lst w' w1.heap.size (v 8) X := hall 8 (of_decide_eq_true (by kernel_rfl))
      have h9 : v 9 = I 0 := hall 9 (of_decide_eq_true (by kernel_rfl))
      clear hall
      simp only [List.length_cons, List.length_nil, Nat.zero_add, Nat.reduceAdd, List.range, List.range.loop, List.foldl_cons, List.foldl_nil, dstOf, List.getElem?_cons_zero, List.getElem?_cons_succ, Option.getD_some, Act.put, h9, List.setIfInBounds_toArray, List.set_cons_succ, List.set_cons_zero]
      go_wp2
      go_ret2
      exact ⟨_, rfl, hX.weak hB1.size, then_below hB1 hT⟩

end Go.Proofs.Ytbbddolalglmnaa

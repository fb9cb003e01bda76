/-
  What the document's own answer for layer 6 gives: Taken, Sets, Apart.
-/
import Derived.Test.YtbedhpooeabehaaGreatDoorRefCables
import Derived.Test.YtbedhpooeabehaaGreatDoorPart7
namespace Go.Proofs.YtbedhpooeabehaaGreatDoor
open Go Go.RowKit Go.Shelf

attribute [local go_sem] Oper.semAt_some ext_const

/-- What each operation of Taken's last statement keeps. -/
def wordT6 (d0 d1 d2 N M : Int) (b : Bx) (t0 t1 t2 : Bool) (B base : Nat) (X Y : List Int) (S1 S2 : List Nat) (i : Nat) (v : Value) (w : World) : Prop :=
  match i with
  | 0 => v = I N
  | 1 => v = A3 d0 d1 d2
  | 2 => v = .pointer (some ⟨B, 0, none⟩)
  | 3 => v = B6 b
  | 4 => Lst w base v X
  | 5 => SetR w base v S1
  | 6 => v = I N
  | 7 => v = I M
  | 8 => v = A3 d0 d1 d2
  | 9 => v = P9 b t0 t1 t2
  | 10 => Lst w base v Y
  | 11 => SetR w base v S2
  | 12 => SetR w base v S1
  | 13 => SetR w base v S2
  | _ => False
theorem wordT6_later {d0 d1 d2 N M : Int} {b : Bx} {t0 t1 t2 : Bool} {B base : Nat} {X Y : List Int} {S1 S2 : List Nat} (i : Nat) (v : Value) (w w' : World) (h : wordT6 d0 d1 d2 N M b t0 t1 t2 B base X Y S1 S2 i v w) (hB : Below w.heap.size w w') : wordT6 d0 d1 d2 N M b t0 t1 t2 B base X Y S1 S2 i v w' := by
  match i, h with
  | 0, h => exact h
  | 1, h => exact h
  | 2, h => exact h
  | 3, h => exact h
  | 4, h => exact h.later hB
  | 5, h => exact h.later hB
  | 6, h => exact h
  | 7, h => exact h
  | 8, h => exact h
  | 9, h => exact h
  | 10, h => exact h.later hB
  | 11, h => exact h.later hB
  | 12, h => exact h.later hB
  | 13, h => exact h.later hB
  | n + 14, h => exact h.elim

set_option maxRecDepth 100000 in
set_option maxHeartbeats 8000000 in
theorem rtaken_calls {d0 d1 d2 : Int} {b : Bx} {t0 t1 t2 : Bool} (w : World) (hm : mayD d0 d1 d2) (hp : mayP d0 d1 d2 b t0 t1 t2) :
    Calls Tryz.prog 36 #[A3 d0 d1 d2, P9 b t0 t1 t2] w fun e W' => ∃ u v, e = .returned (.tuple #[u, v]) ∧ SetR W' w.heap.size u (midW d0 d1 d2 b) ∧ SetR W' w.heap.size v (cabsW d0 d1 d2 b t0 t1 t2) ∧ Below w.heap.size w W' := by
  have hmx : Tryz.prog.follows .mixedOrders = true := by kernel_rfl
  have hN := N_bd hm
  have HN : Hid (∀ w, Calls Tryz.prog 27 #[A3 d0 d1 d2] w fun e W' => e = .returned (I (d0 * d1 * d2)) ∧ Below w.heap.size w W') := fun w => rn_calls w hm
  have HA : Hid (∀ w, Calls Tryz.prog 57 #[A3 d0 d1 d2, B6 b] w fun e W' => ∃ v, e = .returned v ∧ Lst W' w.heap.size v (nodesB d0 d1 d2 b) ∧ Below w.heap.size w W') := fun w => rall_calls w hm hp.1
  have HC : Hid (∀ w, Calls Tryz.prog 58 #[A3 d0 d1 d2, P9 b t0 t1 t2] w fun e W' => ∃ v, e = .returned v ∧ Lst W' w.heap.size v (cabsL d0 d1 d2 b t0 t1 t2) ∧ Below w.heap.size w W') := fun w => rcables_calls w hm hp
  have HF1 : Hid (∀ w v base, Lst w base v (nodesB d0 d1 d2 b) → Calls Tryz.prog 56 #[I (d0 * d1 * d2), v] w fun e W' => ∃ u, e = .returned u ∧ SetR W' w.heap.size u (midW d0 d1 d2 b) ∧ Below w.heap.size w W') :=
    fun w v base hv => from_set w hv (by have := nodesB_len hm b; omega) (by omega) (by omega) (fun x hx => (nodesP_mem.1 hx).1) (nodes_in d0 d1 d2 b)
  have HF2 : Hid (∀ w v base, Lst w base v (cabsL d0 d1 d2 b t0 t1 t2) → Calls Tryz.prog 56 #[I (3 * (d0 * d1 * d2)), v] w fun e W' => ∃ u, e = .returned u ∧ SetR W' w.heap.size u (cabsW d0 d1 d2 b t0 t1 t2) ∧ Below w.heap.size w W') :=
    fun w v base hv => from_set w hv (by have := cabsL_len hm hp; omega) (by omega) (by omega) (fun x hx => by obtain ⟨k, o, ho, _, rfl⟩ := (cabsL_mem hm hp).1 hx; exact cab_node ho k) (cabs_in hm hp)
  have hW3 : IntKind.i64.wrap (3 * (d0 * d1 * d2)) = 3 * (d0 * d1 * d2) := by rw [IntKind.wrap_i64]; omega
  clear hm hp
  generalize cabsW d0 d1 d2 b t0 t1 t2 = S2 at *
  generalize midW d0 d1 d2 b = S1 at *
  generalize cabsL d0 d1 d2 b t0 t1 t2 = Y at *
  generalize nodesB d0 d1 d2 b = X at *
  generalize d0 * d1 * d2 = N at *
  go_enter Tryz.func36, Tryz.ntmps36
  go_wp2_with fail
  obtain ⟨W, hW, hB0, b0, b1⟩ := two_start w #[I d0, I d1, I d2] (C9 b t0 t1 t2) 23 30
  rw [hW]
  clear hW
  refine (HN.out _).mono ?_
  rintro e w1 ⟨rfl, hT⟩
  have q0 := b0.later hT
  have q1 := b1.later hT
  have hB1 := then_below hB0 hT
  clear hT b0 b1 hB0
  go_wp2_with fail
  refine wp_region_loud (w0 := w1) (wordT6 d0 d1 d2 N (3 * N) b t0 t1 t2 (w.heap.size + 1) w1.heap.size X Y S1 S2) hmx (by kernel_rfl) wordT6_later ?_ ?_
  · intro i o hi a w' hT hL hpre
    have s2 : a.tmps.getD 2 undef = .pointer (some ⟨w.heap.size, 0, none⟩) := by
      rw [Array.getD_eq_getD_getElem?, hL.out 2 (of_decide_eq_true (by kernel_rfl))]; rfl
    have s3 : a.tmps.getD 3 undef = .pointer (some ⟨w.heap.size + 1, 0, none⟩) := by
      rw [Array.getD_eq_getD_getElem?, hL.out 3 (of_decide_eq_true (by kernel_rfl))]; rfl
    have s6 : a.tmps.getD 6 undef = I N := by
      rw [Array.getD_eq_getD_getElem?, hL.out 6 (of_decide_eq_true (by kernel_rfl))]; rfl
    obtain ⟨c0, c1, c2, hz⟩ := q0.three hT
    obtain ⟨⟨x0, x1, x2⟩, ⟨x3, x4, x5⟩, ⟨x6, x7, x8⟩, hz1⟩ := q1.nine hT
    clear hL
    match i, hi with
    | 0, hi =>
      obtain rfl := Option.some.inj hi
      refine .inl ⟨I N, ?_, rfl⟩
      simp [execOp, go_sem, Act.eval, s6]
    | 1, hi =>
      obtain rfl := Option.some.inj hi
      refine .inl ⟨A3 d0 d1 d2, ?_, rfl⟩
      simp [execOp, go_sem, Act.eval, s2, c0, c1, c2]
    | 2, hi =>
      obtain rfl := Option.some.inj hi
      refine .inl ⟨.pointer (some ⟨w.heap.size + 1, 0, none⟩), ?_, rfl⟩
      simp [execOp, go_sem, Act.eval, s3]
    | 3, hi =>
      obtain rfl := Option.some.inj hi
      have p0 : a.tmps.getD 11 undef = .pointer (some ⟨w.heap.size + 1, 0, none⟩) := hpre ⟨2, .data⟩ (by simp) rfl
      refine .inl ⟨B6 b, ?_, rfl⟩
      simp [execOp, go_sem, Act.eval, p0, x0, x1, x2, x3, x4, x5]
    | 4, hi =>
      obtain rfl := Option.some.inj hi
      have p0 : a.tmps.getD 10 undef = A3 d0 d1 d2 := hpre ⟨1, .data⟩ (by simp) rfl
      have p1 : a.tmps.getD 12 undef = B6 b := hpre ⟨3, .data⟩ (by simp) rfl
      refine .inr ⟨57, #[A3 d0 d1 d2, B6 b], ?_, ?_⟩
      · simp [go_sem, Act.eval, p0, p1]
      · refine (HA.out w').mono ?_
        rintro e w'' ⟨u, rfl, hl, hB⟩
        exact ⟨_, rfl, hB, hl.weak hT.size⟩
    | 5, hi =>
      obtain rfl := Option.some.inj hi
      have p0 : a.tmps.getD 9 undef = I N := hpre ⟨0, .data⟩ (by simp) rfl
      have p1 : Lst w' w1.heap.size (a.tmps.getD 13 undef) X := hpre ⟨4, .data⟩ (by simp) rfl
      refine .inr ⟨56, #[I N, a.tmps.getD 13 undef], ?_, ?_⟩
      · simp [go_sem, Act.eval, p0]
      · refine (HF1.out w' _ _ p1).mono ?_
        rintro e w'' ⟨u, rfl, hl, hB⟩
        exact ⟨_, rfl, hB, hl.weak hT.size⟩
    | 6, hi =>
      obtain rfl := Option.some.inj hi
      refine .inl ⟨I N, ?_, rfl⟩
      simp [execOp, go_sem, Act.eval, s6]
    | 7, hi =>
      obtain rfl := Option.some.inj hi
      have p0 : a.tmps.getD 15 undef = I N := hpre ⟨6, .data⟩ (by simp) rfl
      refine .inl ⟨I (3 * N), ?_, rfl⟩
      simp [execOp, go_sem, Act.eval, p0, hW3]
    | 8, hi =>
      obtain rfl := Option.some.inj hi
      refine .inl ⟨A3 d0 d1 d2, ?_, rfl⟩
      simp [execOp, go_sem, Act.eval, s2, c0, c1, c2]
    | 9, hi =>
      obtain rfl := Option.some.inj hi
      refine .inl ⟨P9 b t0 t1 t2, ?_, rfl⟩
      simp [execOp, go_sem, Act.eval, s3, x0, x1, x2, x3, x4, x5, x6, x7, x8]
    | 10, hi =>
      obtain rfl := Option.some.inj hi
      have p0 : a.tmps.getD 17 undef = A3 d0 d1 d2 := hpre ⟨8, .data⟩ (by simp) rfl
      have p1 : a.tmps.getD 18 undef = P9 b t0 t1 t2 := hpre ⟨9, .data⟩ (by simp) rfl
      refine .inr ⟨58, #[A3 d0 d1 d2, P9 b t0 t1 t2], ?_, ?_⟩
      · simp [go_sem, Act.eval, p0, p1]
      · refine (HC.out w').mono ?_
        rintro e w'' ⟨u, rfl, hl, hB⟩
        exact ⟨_, rfl, hB, hl.weak hT.size⟩
    | 11, hi =>
      obtain rfl := Option.some.inj hi
      have p0 : a.tmps.getD 16 undef = I (3 * N) := hpre ⟨7, .data⟩ (by simp) rfl
      have p1 : Lst w' w1.heap.size (a.tmps.getD 19 undef) Y := hpre ⟨10, .data⟩ (by simp) rfl
      refine .inr ⟨56, #[I (3 * N), a.tmps.getD 19 undef], ?_, ?_⟩
      · simp [go_sem, Act.eval, p0]
      · refine (HF2.out w' _ _ p1).mono ?_
        rintro e w'' ⟨u, rfl, hl, hB⟩
        exact ⟨_, rfl, hB, hl.weak hT.size⟩
    | 12, hi =>
      obtain rfl := Option.some.inj hi
      have p0 : SetR w' w1.heap.size (a.tmps.getD 14 undef) S1 := hpre ⟨5, .data⟩ (by simp) rfl
      refine .inl ⟨a.tmps.getD 14 undef, ?_, p0⟩
      simp [execOp, go_sem, Act.eval]
    | 13, hi =>
      obtain rfl := Option.some.inj hi
      have p0 : SetR w' w1.heap.size (a.tmps.getD 20 undef) S2 := hpre ⟨11, .data⟩ (by simp) rfl
      refine .inl ⟨a.tmps.getD 20 undef, ?_, p0⟩
      simp [execOp, go_sem, Act.eval]
    | n + 14, hi => simp at hi
  · intro vs w2 hT hall
    have h12 : SetR w2 w1.heap.size (vs 12) S1 := hall 12 (of_decide_eq_true (by kernel_rfl))
    have h13 : SetR w2 w1.heap.size (vs 13) S2 := hall 13 (of_decide_eq_true (by kernel_rfl))
    clear hall
    simp only [List.length_cons, List.length_nil, Nat.zero_add, Nat.reduceAdd, List.range, List.range.loop, List.foldl_cons, List.foldl_nil, dstOf, List.getElem?_cons_zero, List.getElem?_cons_succ, Option.getD_some, Act.put, List.setIfInBounds_toArray, List.set_cons_succ, List.set_cons_zero]
    go_wp2
    go_ret2
    exact ⟨_, _, rfl, h12.weak hB1.size, h13.weak hB1.size, then_below hB1 hT⟩

end Go.Proofs.YtbedhpooeabehaaGreatDoor

/-
  What the document's own answer for layer 6 gives: Taken, Sets, Apart.
-/
import Derived.Test.YtlahfffgmfjpaaaGreatDoorRefCables
import Derived.Test.YtlahfffgmfjpaaaGreatDoorPart9
import Derived.Test.YtlahfffgmfjpaaaGreatDoorPart16
import Derived.Test.YtlahfffgmfjpaaaGreatDoorPart34
import Derived.Test.YtlahfffgmfjpaaaGreatDoorPart28
namespace Go.Proofs.YtlahfffgmfjpaaaGreatDoor
open Go Go.RowKit Go.Shelf

attribute [local go_sem] Oper.semAt_some ext_const

/-- What each operation of Taken's last statement keeps. -/
def wordT6 (d0 d1 d2 N M : Int) (b : Bx) (t0 t1 t2 : Bool) (B base : Nat) (X Y : List Int) (S1 S2 : List Nat) (i : Nat) (v : Value) (w : World) : Prop :=
  match i with
  | 0 => v = I N
  | 1 => v = A3 d0 d1 d2
  | 2 => v = .pointer (some ⟨B, 0, none⟩)
  | 3 => v = B6 b
  | 4 => Lst w base v X
  | 5 => SetR w base v S1
  | 6 => v = I N
  | 7 => v = I M
  | 8 => v = A3 d0 d1 d2
  | 9 => v = P9 b t0 t1 t2
  | 10 => Lst w base v Y
  | 11 => SetR w base v S2
  | 12 => SetR w base v S1
  | 13 => SetR w base v S2
  | _ => False
theorem wordT6_later {d0 d1 d2 N M : Int} {b : Bx} {t0 t1 t2 : Bool} {B base : Nat} {X Y : List Int} {S1 S2 : List Nat} (i : Nat) (v : Value) (w w' : World) (h : wordT6 d0 d1 d2 N M b t0 t1 t2 B base X Y S1 S2 i v w) (hB : Below w.heap.size w w') : wordT6 d0 d1 d2 N M b t0 t1 t2 B base X Y S1 S2 i v w' := by
  match i, h with
  | 0, h => exact h
  | 1, h => exact h
  | 2, h => exact h
  | 3, h => exact h
  | 4, h => exact h.later hB
  | 5, h => exact h.later hB
  | 6, h => exact h
  | 7, h => exact h
  | 8, h => exact h
  | 9, h => exact h
  | 10, h => exact h.later hB
  | 11, h => exact h.later hB
  | 12, h => exact h.later hB
  | 13, h => exact h.later hB
  | n + 14, h => exact h.elim

set_option maxRecDepth 100000 in
set_option maxHeartbeats 8000000 in
theorem rtaken_calls {d0 d1 d2 : Int} {b : Bx} {t0 t1 t2 : Bool} (w : World) (hm : mayD d0 d1 d2) (hp : mayP d0 d1 d2 b t0 t1 t2) :
    Calls Tryz.prog 78 #[A3 d0 d1 d2, P9 b t0 t1 t2] w fun e W' => ∃ u v, e = .returned (.tuple #[u, v]) ∧ SetR W' w.heap.size u (midW d0 d1 d2 b) ∧ SetR W' w.heap.size v (cabsW d0 d1 d2 b t0 t1 t2) ∧ Below w.heap.size w W' := by
  have hmx : Tryz.prog.follows .mixedOrders = true := by kernel_rfl
  have hN := N_bd hm
  have HN : Hid (∀ w, Calls Tryz.prog 22 #[A3 d0 d1 d2] w fun e W' => e = .returned (I (d0 * d1 * d2)) ∧ Below w.heap.size w W') := fun w => rn_calls w hm
  have HA : Hid (∀ w, Calls Tryz.prog 102 #[A3 d0 d1 d2, B6 b] w fun e W' => ∃ v, e = .returned v ∧ Lst W' w.heap.size v (nodesB d0 d1 d2 b) ∧ Below w.heap.size w W') := fun w => rall_calls w hm hp.1
  have HC : Hid (∀ w, Calls Tryz.prog 103 #[A3 d0 d1 d2, P9 b t0 t1 t2] w fun e W' => ∃ v, e = .returned v ∧ Lst W' w.heap.size v (cabsL d0 d1 d2 b t0 t1 t2) ∧ Below w.heap.size w W') := fun w => rcables_calls w hm hp
  have HF1 : Hid (∀ w v base, Lst w base v (nodesB d0 d1 d2 b) → Calls Tryz.prog 101 #[I (d0 * d1 * d2), v] w fun e W' => ∃ u, e = .returned u ∧ SetR W' w.heap.size u (midW d0 d1 d2 b) ∧ Below w.heap.size w W') :=
    fun w v base hv => from_set w hv (by have := nodesB_len hm b; omega) (by omega) (by omega) (fun x hx => (nodesP_mem.1 hx).1) (nodes_in d0 d1 d2 b)
  have HF2 : Hid (∀ w v base, Lst w base v (cabsL d0 d1 d2 b t0 t1 t2) → Calls Tryz.prog 101 #[I (3 * (d0 * d1 * d2)), v] w fun e W' => ∃ u, e = .returned u ∧ SetR W' w.heap.size u (cabsW d0 d1 d2 b t0 t1 t2) ∧ Below w.heap.size w W') :=
    fun w v base hv => from_set w hv (by have := cabsL_len hm hp; omega) (by omega) (by omega) (fun x hx => by obtain ⟨k, o, ho, _, rfl⟩ := (cabsL_mem hm hp).1 hx; exact cab_node ho k) (cabs_in hm hp)
  have hW3 : IntKind.i64.wrap (3 * (d0 * d1 * d2)) = 3 * (d0 * d1 * d2) := by rw [IntKind.wrap_i64]; omega
  clear hm hp
  generalize cabsW d0 d1 d2 b t0 t1 t2 = S2 at *
  generalize midW d0 d1 d2 b = S1 at *
  generalize cabsL d0 d1 d2 b t0 t1 t2 = Y at *
  generalize nodesB d0 d1 d2 b = X at *
  generalize d0 * d1 * d2 = N at *
  go_enter Tryz.func78, Tryz.ntmps78
  go_wp2_with fail
  obtain ⟨W, hW, hB0, b0, b1⟩ := two_start w #[I d0, I d1, I d2] (C9 b t0 t1 t2) 23 32
  rw [hW]
  clear hW
  refine (HN.out _).mono ?_
  rintro e w1 ⟨rfl, hT⟩
  have q0 := b0.later hT
  have q1 := b1.later hT
  have hB1 := then_below hB0 hT
  clear hT b0 b1 hB0
  go_wp2_with fail
  refine wp_region_loud (w0 := w1) (wordT6 d0 d1 d2 N (3 * N) b t0 t1 t2 (w.heap.size + 1) w1.heap.size X Y S1 S2) hmx (by kernel_rfl) wordT6_later ?_ ?_
  · intro i o hi a w' hT hL hpre
    have s2 : a.tmps.getD 2 undef = .pointer (some ⟨w.heap.size, 0, none⟩) := by
      rw [Array.getD_eq_getD_getElem?, hL.out 2 (of_decide_eq_true (by kernel_rfl))]; rfl
    have s3 : a.tmps.getD 3 undef = .pointer (some ⟨w.heap.size + 1, 0, none⟩) := by
      rw [Array.getD_eq_getD_getElem?, hL.out 3 (of_decide_eq_true (by kernel_rfl))]; rfl
    have s6 : a.tmps.getD 6 undef = I N := by
      rw [Array.getD_eq_getD_getElem?, hL.out 6 (of_decide_eq_true (by kernel_rfl))]; rfl
    obtain ⟨c0, c1, c2, hz⟩ := q0.three hT
    obtain ⟨⟨x0, x1, x2⟩, ⟨x3, x4, x5⟩, ⟨x6, x7, x8⟩, hz1⟩ := q1.nine hT
    clear hL
    match i, hi with
    | 0, hi =>
      obtain rfl := Option.some.inj hi
      refine .inl ⟨I N, ?_, rfl⟩
      simp [execOp, go_sem, Act.eval, s6]
    | 1, hi =>
      obtain rfl := Option.some.inj hi
      refine .inl ⟨A3 d0 d1 d2, ?_, rfl⟩
      simp [execOp, go_sem, Act.eval, s2, c0, c1, c2]
    | 2, hi =>
      obtain rfl := Option.some.inj hi
      refine .inl ⟨.pointer (some ⟨w.heap.size + 1, 0, none⟩), ?_, rfl⟩
      simp [execOp, go_sem, Act.eval, s3]
    | 3, hi =>
      obtain rfl := Option.some.inj hi
      have p0 : a.tmps.getD 11 undef = .pointer (some ⟨w.heap.size + 1, 0, none⟩) := hpre ⟨2, .data⟩ (by simp) rfl
      refine .inl ⟨B6 b, ?_, rfl⟩
      simp [execOp, go_sem, Act.eval, p0, x0, x1, x2, x3, x4, x5]
    | 4, hi =>
      obtain rfl := Option.some.inj hi
      have p0 : a.tmps.getD 10 undef = A3 d0 d1 d2 := hpre ⟨1, .data⟩ (by simp) rfl
      have p1 : a.tmps.getD 12 undef = B6 b := hpre ⟨3, .data⟩ (by simp) rfl
      refine .inr ⟨102, #[A3 d0 d1 d2, B6 b], ?_, ?_⟩
      · simp [go_sem, Act.eval, p0, p1]
      · refine (HA.out w').mono ?_
        rintro e w'' ⟨u, rfl, hl, hB⟩
        exact ⟨_, rfl, hB, hl.weak hT.size⟩
    | 5, hi =>
      obtain rfl := Option.some.inj hi
      have p0 : a.tmps.getD 9 undef = I N := hpre ⟨0, .data⟩ (by simp) rfl
      have p1 : Lst w' w1.heap.size (a.tmps.getD 13 undef) X := hpre ⟨4, .data⟩ (by simp) rfl
      refine .inr ⟨101, #[I N, a.tmps.getD 13 undef], ?_, ?_⟩
      · simp [go_sem, Act.eval, p0]
      · refine (HF1.out w' _ _ p1).mono ?_
        rintro e w'' ⟨u, rfl, hl, hB⟩
        exact ⟨_, rfl, hB, hl.weak hT.size⟩
    | 6, hi =>
      obtain rfl := Option.some.inj hi
      refine .inl ⟨I N, ?_, rfl⟩
      simp [execOp, go_sem, Act.eval, s6]
    | 7, hi =>
      obtain rfl := Option.some.inj hi
      have p0 : a.tmps.getD 15 undef = I N := hpre ⟨6, .data⟩ (by simp) rfl
      refine .inl ⟨I (3 * N), ?_, rfl⟩
      simp [execOp, go_sem, Act.eval, p0, hW3]
    | 8, hi =>
      obtain rfl := Option.some.inj hi
      refine .inl ⟨A3 d0 d1 d2, ?_, rfl⟩
      simp [execOp, go_sem, Act.eval, s2, c0, c1, c2]
    | 9, hi =>
      obtain rfl := Option.some.inj hi
      refine .inl ⟨P9 b t0 t1 t2, ?_, rfl⟩
      simp [execOp, go_sem, Act.eval, s3, x0, x1, x2, x3, x4, x5, x6, x7, x8]
    | 10, hi =>
      obtain rfl := Option.some.inj hi
      have p0 : a.tmps.getD 17 undef = A3 d0 d1 d2 := hpre ⟨8, .data⟩ (by simp) rfl
      have p1 : a.tmps.getD 18 undef = P9 b t0 t1 t2 := hpre ⟨9, .data⟩ (by simp) rfl
      refine .inr ⟨103, #[A3 d0 d1 d2, P9 b t0 t1 t2], ?_, ?_⟩
      · simp [go_sem, Act.eval, p0, p1]
      · refine (HC.out w').mono ?_
        rintro e w'' ⟨u, rfl, hl, hB⟩
        exact ⟨_, rfl, hB, hl.weak hT.size⟩
    | 11, hi =>
      obtain rfl := Option.some.inj hi
      have p0 : a.tmps.getD 16 undef = I (3 * N) := hpre ⟨7, .data⟩ (by simp) rfl
      have p1 : Lst w' w1.heap.size (a.tmps.getD 19 undef) Y := hpre ⟨10, .data⟩ (by simp) rfl
      refine .inr ⟨101, #[I (3 * N), a.tmps.getD 19 undef], ?_, ?_⟩
      · simp [go_sem, Act.eval, p0]
      · refine (HF2.out w' _ _ p1).mono ?_
        rintro e w'' ⟨u, rfl, hl, hB⟩
        exact ⟨_, rfl, hB, hl.weak hT.size⟩
    | 12, hi =>
      obtain rfl := Option.some.inj hi
      have p0 : SetR w' w1.heap.size (a.tmps.getD 14 undef) S1 := hpre ⟨5, .data⟩ (by simp) rfl
      refine .inl ⟨a.tmps.getD 14 undef, ?_, p0⟩
      simp [execOp, go_sem, Act.eval]
    | 13, hi =>
      obtain rfl := Option.some.inj hi
      have p0 : SetR w' w1.heap.size (a.tmps.getD 20 undef) S2 := hpre ⟨11, .data⟩ (by simp) rfl
      refine .inl ⟨a.tmps.getD 20 undef, ?_, p0⟩
      simp [execOp, go_sem, Act.eval]
    | n + 14, hi => simp at hi
  · intro vs w2 hT hall
    have h12 : SetR w2 w1.heap.size (vs 12) S1 := hall 12 (of_decide_eq_true (by kernel_rfl))
    have h13 : SetR w2 w1.heap.size (vs 13) S2 := hall 13 (of_decide_eq_true (by kernel_rfl))
    clear hall
    simp only [List.length_cons, List.length_nil, Nat.zero_add, Nat.reduceAdd, List.range, List.range.loop, List.foldl_cons, List.foldl_nil, dstOf, List.getElem?_cons_zero, List.getElem?_cons_succ, Option.getD_some, Act.put, List.setIfInBounds_toArray, List.set_cons_succ, List.set_cons_zero]
    go_wp2
    go_ret2
    exact ⟨_, _, rfl, h12.weak hB1.size, h13.weak hB1.size, then_below hB1 hT⟩

end Go.Proofs.YtlahfffgmfjpaaaGreatDoor

/-
  The document's Clear of layer 11 (parted from FreeRef).
-/
namespace Go.Proofs.YtlahfffgmfjpaaaGreatDoor
open Go Go.RowKit Go.Shelf

attribute [local go_sem] Oper.semAt_some ext_const

theorem anyB_off {n : Nat} (p : Nat → Bool) (ws : List Nat) : (!anyB (setOf n p) ws) = offW n p ws := by
  refine bool_ext ?_
  rw [offW_iff, Bool.not_eq_true']
  unfold anyB
  rw [List.any_eq_false]
  constructor
  · intro h k hk hp
    have := h k (List.mem_range.2 (by rw [setOf_len]; omega))
    rw [(setOf_is n p).has] at this
    simpa [hk, hp] using this
  · intro h k _
    rw [(setOf_is n p).has]
    by_cases hk : k < n
    · cases hp : p k
      · simp
      · simp [h k hk hp]
    · simp [hk]
theorem well_any {a b c : Int} (hm : mayD a b c) (bx : Bx) (t0 t1 t2 : Bool) (mw lw : List Nat) : wellB a b c bx t0 t1 t2 mw lw = (!anyB (midW a b c bx) mw && !anyB (cabsW a b c bx t0 t1 t2) lw) := by
  have hb := N_bd hm
  obtain ⟨n, hn⟩ : ∃ n : Nat, a * b * c = n := ⟨(a * b * c).toNat, by omega⟩
  unfold midW cabsW wellB
  rw [hn, Int.toNat_natCast, anyB_off, show (3 * (n : Int)) = ((3 * n : Nat) : Int) by omega, anyB_off]
  rfl

set_option maxRecDepth 100000 in
set_option maxHeartbeats 4000000 in
theorem rfclear_calls {a b c : Int} {bx : Bx} {t0 t1 t2 : Bool} {mw lw : List Nat} {vm vl : Value} (w : World) (hm : mayD a b c) (hp : mayP a b c bx t0 t1 t2) (hM : Wds w vm mw) (hL : Wds w vl lw) :
    Calls Tryz.prog 54 #[A3 a b c, P9 bx t0 t1 t2, vm, vl] w fun e W' => e = .returned (.bool (wellB a b c bx t0 t1 t2 mw lw)) ∧ Below w.heap.size w W' := by
  rw [well_any hm]
  have hbd := N_bd hm
  have HT : Hid (∀ w, Calls Tryz.prog 78 #[A3 a b c, P9 bx t0 t1 t2] w fun e W' => ∃ u v, e = .returned (.tuple #[u, v]) ∧ SetR W' w.heap.size u (midW a b c bx) ∧ SetR W' w.heap.size v (cabsW a b c bx t0 t1 t2) ∧ Below w.heap.size w W') := fun w => rtaken_calls w hm hp
  obtain ⟨W, hW, hB0, k0, k1⟩ := two_start w #[I a, I b, I c] (C9 bx t0 t1 t2) 23 32
  have HW : Hid ((w.alloc (.cells #[I a, I b, I c] 23)).alloc (.cells (C9 bx t0 t1 t2) 32) = W) := hW
  have HM1 : Hid (∀ w' u, Below W.heap.size W w' → Wds w' u (midW a b c bx) → Calls Tryz.prog 79 #[u, vm] w' fun e W' => e = .returned (.bool (anyB (midW a b c bx) mw)) ∧ Below w'.heap.size w' W') := fun w' u hb hu => meetsS_calls w' hu (hM.later (then_below hB0 hb)) (by unfold midW; rw [setOf_len]; omega)
  have HM2 : Hid (∀ w' u, Below W.heap.size W w' → Wds w' u (cabsW a b c bx t0 t1 t2) → Calls Tryz.prog 79 #[u, vl] w' fun e W' => e = .returned (.bool (anyB (cabsW a b c bx t0 t1 t2) lw)) ∧ Below w'.heap.size w' W') := fun w' u hb hu => meetsS_calls w' hu (hL.later (then_below hB0 hb)) (by unfold cabsW; rw [setOf_len]; omega)
  clear hm hp hM hL hW hbd
  generalize anyB (midW a b c bx) mw = q1 at *
  generalize anyB (cabsW a b c bx t0 t1 t2) lw = q2 at *
  generalize midW a b c bx = S1 at *
  generalize cabsW a b c bx t0 t1 t2 = S2' at *
  obtain ⟨c0, c1, c2, hz⟩ := k0.three (Below.refl _ _)
  obtain ⟨⟨x0, x1, x2⟩, ⟨x3, x4, x5⟩, ⟨x6, x7, x8⟩, hz1⟩ := k1.nine (Below.refl _ _)
  cases q1
  · go_enter Tryz.func54, Tryz.ntmps54
    go_wp2_with fail
    rw [HW.out]
    refine (HT.out _).mono ?_
    rintro e w1 ⟨u, v, rfl, hu, hv, hT⟩
    have HV : Hid (Wds w1 v S2') := hv.wds
    have HU : Hid (Wds w1 u S1) := hu.wds
    clear hu hv c0 c1 c2 hz x0 x1 x2 x3 x4 x5 x6 x7 x8 hz1
    go_wp2_with fail
    refine (HM1.out _ _ hT HU.out).mono ?_
    rintro e w2 ⟨rfl, hT2⟩
    go_wp2_with fail
    refine (HM2.out _ _ (then_below hT hT2) (HV.out.later hT2)).mono ?_
    rintro e w3 ⟨rfl, hT3⟩
    go_wp2
    go_ret
    exact ⟨rfl, then_below hB0 (then_below (then_below hT hT2) hT3)⟩
  · go_enter Tryz.func54, Tryz.ntmps54
    go_wp2_with fail
    rw [HW.out]
    refine (HT.out _).mono ?_
    rintro e w1 ⟨u, v, rfl, hu, hv, hT⟩
    have HU : Hid (Wds w1 u S1) := hu.wds
    clear hu hv c0 c1 c2 hz x0 x1 x2 x3 x4 x5 x6 x7 x8 hz1
    go_wp2_with fail
    refine (HM1.out _ _ hT HU.out).mono ?_
    rintro e w2 ⟨rfl, hT2⟩
    go_wp2
    go_ret
    exact ⟨rfl, then_below hB0 (then_below hT hT2)⟩

end Go.Proofs.YtlahfffgmfjpaaaGreatDoor

/-
  tidehallref12.Clear, with Every's contract as what is asked.
-/
namespace Go.Proofs.YtlahfffgmfjpaaaGreatDoor
open Go Go.RowKit Go.Shelf Go.Maps

attribute [local go_sem] Oper.semAt_some ext_const ixI0 ixI1 ixI2

set_option maxRecDepth 100000 in
set_option maxHeartbeats 8000000 in
theorem rclearP_calls {d0 d1 d2 x y z : Int} {f g h t : Bool} {vm vl : Value} {mw lw : List Nat} (w : World) (hd : mayD d0 d1 d2) (hu : mayT (x, y, z, f, g, h, t)) (hM : Wds w vm mw) (hL : Wds w vl lw)
    (hE : ∀ w, Calls Tryz.prog 53 #[A3 d0 d1 d2, V7 x y z f g h t] w fun e W' => ∃ v, e = .returned v ∧ Lp W' w.heap.size v (everyT d0 d1 d2 (turnsT (x, y, z, f, g, h, t))) ∧ Below w.heap.size w W') :
    Calls Tryz.prog 24 #[A3 d0 d1 d2, V7 x y z f g h t, vm, vl] w fun e W' => ∃ v, e = .returned v ∧ Lp W' w.heap.size v (clearT d0 d1 d2 (turnsT (x, y, z, f, g, h, t)) mw lw) ∧ Below w.heap.size w W' := by
  have mixed : Tryz.prog.follows .mixedOrders = true := by kernel_rfl
  have HE : Hid (∀ w, Calls Tryz.prog 53 #[A3 d0 d1 d2, V7 x y z f g h t] w fun e W' => ∃ v, e = .returned v ∧ Lp W' w.heap.size v (everyT d0 d1 d2 (turnsT (x, y, z, f, g, h, t))) ∧ Below w.heap.size w W') := hE
  have HC : Hid (∀ (b : Bx) (p q r : Bool) (w1 : World), (b, p, q, r) ∈ everyT d0 d1 d2 (turnsT (x, y, z, f, g, h, t)) → Below w.heap.size w w1 → Calls Tryz.prog 54 #[A3 d0 d1 d2, P9 b p q r, vm, vl] w1 fun e W' => e = .returned (.bool (wellL d0 d1 d2 mw lw (b, p, q, r))) ∧ Below w1.heap.size w1 W') := fun b p q r w1 hm hb =>
    rfclear_calls w1 hd (mayL_iff.1 ((every_mem hd (turns_all hu)).1 hm).1) (hM.later hb) (hL.later hb)
  have HLn : Hid ((everyT d0 d1 d2 (turnsT (x, y, z, f, g, h, t))).length ≤ 24576) := by
    have b := places_len hd hu
    rw [← every_len hd (turns_all hu)] at b
    have c := places_bd hd hu
    show _ ≤ _
    omega
  have HR : Hid (clearT d0 d1 d2 (turnsT (x, y, z, f, g, h, t)) mw lw = (everyT d0 d1 d2 (turnsT (x, y, z, f, g, h, t))).filter (wellL d0 d1 d2 mw lw)) := rfl
  obtain ⟨am, cm, rfl, _⟩ := hM.view
  obtain ⟨al, cl, rfl, _⟩ := hL.view
  clear hE hd hu hM hL
  generalize mw.length = nm at *
  generalize lw.length = nl at *
  generalize clearT d0 d1 d2 (turnsT (x, y, z, f, g, h, t)) mw lw = R at *
  generalize everyT d0 d1 d2 (turnsT (x, y, z, f, g, h, t)) = xs at *
  generalize wellL d0 d1 d2 mw lw = lo at *
  obtain ⟨W, hW, hB0, k0, k1⟩ := two_start w #[I d0, I d1, I d2] #[I x, I y, I z, .bool f, .bool g, .bool h, .bool t] 23 26
  have HW : Hid ((w.alloc (.cells #[I d0, I d1, I d2] 23)).alloc (.cells #[I x, I y, I z, .bool f, .bool g, .bool h, .bool t] 26) = W) := hW
  clear hW
  obtain ⟨a0, a1, a2, az⟩ := k0.three (Below.refl _ _)
  obtain ⟨s0, s1, s2, s3, s4, s5, s6⟩ := k1.seven
  have sz := k1.lt
  go_enter Tryz.func24, Tryz.ntmps24
  go_wp2_with fail
  rw [HW.out]
  refine (HE.out _).mono ?_
  rintro e w1 ⟨u, rfl, hL0, hB⟩
  obtain ⟨lo1, lc, rfl, hL⟩ := hL0.form
  have HW1 : Hid (Below w.heap.size w w1 ∧ Blk w1 w.heap.size 23 #[I d0, I d1, I d2] ∧ Lp w1 0 (.slice lo1 xs.length lc) xs) := ⟨then_below hB0 hB, k0.later hB, hL.weak (Nat.zero_le _)⟩
  clear hL0 hL hB hB0 k0 k1 a0 a1 a2 az s0 s1 s2 s3 s4 s5 s6 sz HW HE W
  have hxl : xs.length ≤ 24576 := HLn.out
  go_wp2
  go_loopw [9, 11] (fun u i wr => ∃ (k : Nat), k ≤ xs.length ∧ i = .int .i64 k ∧ Lp wr w1.heap.size u ((xs.take k).filter lo) ∧ Hid (Below w1.heap.size w1 wr)) (fun _ i _ => xs.length - (RowKit.intOf i).toNat)
  case atStart => exact ⟨0, by omega, rfl, Lp.nil _ _, Below.refl _ _⟩
  case round =>
    obtain ⟨k, hk, rfl, hO0, HBw⟩ := hrel
    obtain ⟨ao9, cap9, rfl, hO⟩ := hO0.form
    clear hO0
    by_cases hlt : (k : Int) < (xs.length : Int)
    · have hk2 : k < xs.length := by omega
      obtain ⟨gl, b, p, q, r, rfl, hx, hat⟩ := (HW1.out.2.2.later HBw.out).at hk2
      have hbm : (b, p, q, r) ∈ xs := by rw [← hx]; simp [hk2]
      have hxe : xs[k] = (b, p, q, r) := by rw [← hx]; simp [hk2]
      have HT1 : Hid (lo (b, p, q, r) = true → (xs.take (k + 1)).filter lo = (xs.take k).filter lo ++ [(b, p, q, r)]) := fun h => by
        rw [List.take_succ_eq_append_getElem hk2, List.filter_append, hxe]
        simp [h]
      have HT0 : Hid (lo (b, p, q, r) = false → (xs.take (k + 1)).filter lo = (xs.take k).filter lo) := fun h => by
        rw [List.take_succ_eq_append_getElem hk2, List.filter_append, hxe]
        simp [h]
      have hfl : ((xs.take k).filter lo).length ≤ 100000 := Nat.le_trans (List.length_filter_le _ _) (by rw [List.length_take]; omega)
      have HCx : Hid (∀ X : Ext wr, Calls Tryz.prog 54 #[A3 d0 d1 d2, P9 b p q r, .slice am nm cm, .slice al nl cl] X.wd fun e W' => e = .returned (.bool (lo (b, p, q, r))) ∧ Below X.wd.heap.size X.wd W') := fun X =>
        HC.out b p q r X.wd hbm ((HW1.out.1.trans (HBw.out.mono HW1.out.1.size)).trans (X.le.mono (HW1.out.1.trans (HBw.out.mono HW1.out.1.size)).size))
      have HOut : Hid (Lp wr w1.heap.size (.slice ao9 ((xs.take k).filter lo).length cap9) ((xs.take k).filter lo) ∧ Below w1.heap.size w1 wr ∧ At9 wr gl (k * 9) (b, p, q, r)) := ⟨hO, HBw.out, hat⟩
      have kd := HW1.out.2.1.later HBw.out
      have e0 := Ext.cell kd 0
      have e1 := Ext.cell kd 1
      have e2 := Ext.cell kd 2
      simp at e0 e1 e2
      obtain ⟨x0, x1, x2, x3, x4, x5, x6, x7, x8⟩ := hat.ext
      clear hbm hxe hx hat hO HBw kd
      generalize (xs.take k).filter lo = ys at *
      generalize hys : (xs.take (k + 1)).filter lo = ys1 at *
      have HYs : Hid ((xs.take (k + 1)).filter lo = ys1) := hys
      clear hys
      generalize lo (b, p, q, r) = lb at *
      go_wp2_with fail
      refine wp_region_look mixed (by kernel_rfl) ?_
      repeat (go_big_quiet_step ((go_at_call 54; exact calls_ext (HCx.out _))))
      refine wpQuiet_nil ?_
      intro X
      have hX := X.le
      have HO2 : Hid (Lp X.wd w1.heap.size (.slice ao9 ys.length cap9) ys ∧ Below w1.heap.size w1 X.wd ∧ At9 X.wd gl (k * 9) (b, p, q, r)) := ⟨HOut.out.1.later hX, HOut.out.2.1.trans (hX.mono HOut.out.2.1.size), HOut.out.2.2.later hX⟩
      clear HOut hX e0 e1 e2 x0 x1 x2 x3 x4 x5 x6 x7 x8 HCx
      generalize X.wd = w9 at *
      clear X
      cases lb
      · have HF : Hid (Lp w9 w1.heap.size (.slice ao9 ys.length cap9) ys1 ∧ Below w1.heap.size w1 w9) := ⟨by rw [HT0.out (by trivial)]; exact HO2.out.1, HO2.out.2.1⟩
        clear HO2
        go_wp2
        exact ⟨⟨k + 1, by omega, by go_num, by rw [HYs.out]; exact HF.out.1, HF.out.2⟩, by simp [RowKit.intOf]; omega⟩
      · have hLy := HO2.out.1
        have hbz : w1.heap.size ≤ w9.heap.size := HO2.out.2.1.size
        obtain ⟨x0, x1, x2, x3, x4, x5, x6, x7, x8⟩ := HO2.out.2.2.cells
        have gz := HO2.out.2.2.lt
        go_wp2_with (at_builtin; refine wpList_appP rfl _ _ rfl rfl rfl rfl hLy hfl hbz ?_; intro ao11 n11 cap11 w11 hL11 hB11)
        have hys1 : (xs.take (k + 1)).filter lo = ys ++ [(b, p, q, r)] := HYs.out.trans (HT1.out (by trivial))
        exact ⟨⟨k + 1, by omega, by go_num, by rw [hys1]; exact hL11, HO2.out.2.1.trans hB11⟩, by simp [RowKit.intOf]; omega⟩
    · obtain rfl : k = xs.length := by omega
      have HF : Hid (Lp wr w1.heap.size (.slice ao9 ((xs.take xs.length).filter lo).length cap9) R ∧ Below w1.heap.size w1 wr) := by
        rw [HR.out]
        have := hO
        rw [List.take_length] at this ⊢
        exact ⟨this, HBw.out⟩
      clear hO HBw
      generalize ((xs.take xs.length).filter lo).length = nn at *
      go_wp2
      go_ret
      exact ⟨_, rfl, HF.out.1.weak HW1.out.1.size, HW1.out.1.trans (HF.out.2.mono HW1.out.1.size)⟩

end Go.Proofs.YtlahfffgmfjpaaaGreatDoor

/-
  tidehallref12.All, with Every's contract as what is asked.
-/
namespace Go.Proofs.YtlahfffgmfjpaaaGreatDoor
open Go Go.RowKit Go.Shelf Go.Maps

attribute [local go_sem] Oper.semAt_some ext_const ixI0 ixI1 ixI2

set_option maxRecDepth 100000 in
set_option maxHeartbeats 8000000 in
theorem rallP_calls {d0 d1 d2 x y z : Int} {f g h t : Bool} {vm vl : Value} {mw lw : List Nat} (w : World) (hM : Wds w vm mw) (hL : Wds w vl lw)
    (hE : mayD d0 d1 d2 → mayT (x, y, z, f, g, h, t) → ∀ w, Calls Tryz.prog 53 #[A3 d0 d1 d2, V7 x y z f g h t] w fun e W' => ∃ v, e = .returned v ∧ Lp W' w.heap.size v (everyT d0 d1 d2 (turnsT (x, y, z, f, g, h, t))) ∧ Below w.heap.size w W') :
    Calls Tryz.prog 7 #[A3 d0 d1 d2, V7 x y z f g h t, vm, vl] w fun e W' => ∃ v, e = .returned (.tuple #[v, I (alE d0 d1 d2 (x, y, z, f, g, h, t) mw lw)]) ∧ Lp W' w.heap.size v (alL d0 d1 d2 (x, y, z, f, g, h, t) mw lw) ∧ Below w.heap.size w W' := by
  have HMy : Hid (∀ w, Calls Tryz.prog 21 #[A3 d0 d1 d2, V7 x y z f g h t] w fun e W' => e = .returned (.bool (okDB d0 d1 d2 && okDB x y z)) ∧ Below w.heap.size w W') := fun w => smay_calls d0 d1 d2 x y z f g h t w
  obtain ⟨W, hW, hB0, k0, k1⟩ := two_start w #[I d0, I d1, I d2] #[I x, I y, I z, .bool f, .bool g, .bool h, .bool t] 23 26
  have HW : Hid ((w.alloc (.cells #[I d0, I d1, I d2] 23)).alloc (.cells #[I x, I y, I z, .bool f, .bool g, .bool h, .bool t] 26) = W) := hW
  clear hW
  obtain ⟨a0, a1, a2, az⟩ := k0.three (Below.refl _ _)
  obtain ⟨s0, s1, s2, s3, s4, s5, s6⟩ := k1.seven
  have sz := k1.lt
  cases hok : (okDB d0 d1 d2 && okDB x y z)
  · have HE8 : Hid (alE d0 d1 d2 (x, y, z, f, g, h, t) mw lw = 8 ∧ alL d0 d1 d2 (x, y, z, f, g, h, t) mw lw = []) := by
      have h8 : alE d0 d1 d2 (x, y, z, f, g, h, t) mw lw = 8 := by
        unfold alE
        rw [hok]
        rfl
      exact ⟨h8, by rw [alL, if_neg (by rw [h8]; decide)]⟩
    rw [hok] at HMy
    obtain ⟨am, cm, rfl, _⟩ := hM.view
    obtain ⟨al, cl, rfl, _⟩ := hL.view
    clear hok hE hM hL
    rw [HE8.out.1, HE8.out.2]
    generalize mw.length = nm at *
    generalize lw.length = nl at *
    go_enter Tryz.func7, Tryz.ntmps7
    go_wp2_with fail
    rw [HW.out]
    refine (HMy.out _).mono ?_
    rintro e w1 ⟨rfl, hB⟩
    have hT := then_below hB0 hB
    clear hB hB0 k0 k1 a0 a1 a2 az s0 s1 s2 s3 s4 s5 s6 sz HW HMy
    go_wp2
    go_ret2
    exact ⟨_, rfl, Lp.nil _ _, hT⟩
  · have hok2 := (Bool.and_eq_true _ _).mp hok
    have hd := (okDB_iff _ _ _).1 hok2.1
    have hu : mayT (x, y, z, f, g, h, t) := mayT_D.2 ((okDB_iff _ _ _).1 hok2.2)
    have hbd := N_bd hd
    obtain ⟨N, hN⟩ : ∃ N : Nat, d0 * d1 * d2 = N := ⟨(d0 * d1 * d2).toNat, by omega⟩
    have HN : Hid (∀ w, Calls Tryz.prog 22 #[A3 d0 d1 d2] w fun e W' => e = .returned (I N) ∧ Below w.heap.size w W') := fun w => by have := rn_calls w hd; rwa [hN] at this
    have HS1 : Hid (∀ w1, Below w.heap.size w w1 → Calls Tryz.prog 23 #[I N, vm] w1 fun e W' => e = .returned (.bool (maySet N mw)) ∧ W' = w1) := fun w1 h1 => may_calls w1 (hM.later h1) N (by omega) (by omega)
    have HS2 : Hid (∀ w1, Below w.heap.size w w1 → Calls Tryz.prog 23 #[I (3 * (N : Int)), vl] w1 fun e W' => e = .returned (.bool (maySet (3 * N) lw)) ∧ W' = w1) := fun w1 h1 => by
      have := may_calls w1 (hL.later h1) (3 * N) (by omega) (by omega)
      rwa [show ((3 * N : Nat) : Int) = 3 * (N : Int) by omega] at this
    have HCl : Hid (∀ w1, Below w.heap.size w w1 → Calls Tryz.prog 24 #[A3 d0 d1 d2, V7 x y z f g h t, vm, vl] w1 fun e W' => ∃ v, e = .returned v ∧ Lp W' w1.heap.size v (clearT d0 d1 d2 (turnsT (x, y, z, f, g, h, t)) mw lw) ∧ Below w1.heap.size w1 W') := fun w1 h1 => rclearP_calls w1 hd hu (hM.later h1) (hL.later h1) (hE hd hu)
    have HA : Hid (alE d0 d1 d2 (x, y, z, f, g, h, t) mw lw = (if maySet N mw && maySet (3 * N) lw then 0 else 8) ∧ alL d0 d1 d2 (x, y, z, f, g, h, t) mw lw = if alE d0 d1 d2 (x, y, z, f, g, h, t) mw lw = 0 then clearT d0 d1 d2 (turnsT (x, y, z, f, g, h, t)) mw lw else []) := by
      refine ⟨?_, rfl⟩
      unfold alE
      rw [hok, if_pos rfl, hN, Int.toNat_natCast]
      rfl
    have hN2 : (N : Int) ≤ 4096 := by omega
    rw [hok] at HMy
    obtain ⟨am, cm, rfl, _⟩ := hM.view
    obtain ⟨al, cl, rfl, _⟩ := hL.view
    clear hok hok2 hd hu hbd hN hE hM hL
    generalize alE d0 d1 d2 (x, y, z, f, g, h, t) mw lw = er at *
    generalize alL d0 d1 d2 (x, y, z, f, g, h, t) mw lw = R at *
    generalize clearT d0 d1 d2 (turnsT (x, y, z, f, g, h, t)) mw lw = CL at *
    generalize maySet N mw = m1 at *
    generalize maySet (3 * N) lw = m2 at *
    generalize mw.length = nm at *
    generalize lw.length = nl at *
    go_enter Tryz.func7, Tryz.ntmps7
    go_wp2_with fail
    rw [HW.out]
    refine (HMy.out _).mono ?_
    rintro e w1 ⟨rfl, hB⟩
    have hT := then_below hB0 hB
    replace k0 := k0.later hB
    replace k1 := k1.later hB
    clear hB hB0 a0 a1 a2 az s0 s1 s2 s3 s4 s5 s6 sz HW HMy W
    obtain ⟨a0, a1, a2, az⟩ := k0.three (Below.refl _ _)
    go_wp2_with fail
    refine (HN.out _).mono ?_
    rintro e w2 ⟨rfl, hB⟩
    replace hT := then_below hT hB
    replace k0 := k0.later hB
    replace k1 := k1.later hB
    clear hB a0 a1 a2 az HN
    go_wp2_with fail
    refine (HS1.out _ hT).mono ?_
    rintro e w3 ⟨rfl, hw⟩
    subst hw
    cases m1
    · have HR : Hid (er = 8 ∧ R = []) := by
        obtain ⟨h1, h2⟩ := HA.out
        simp at h1
        exact ⟨h1, by rw [h2, h1]; rfl⟩
      clear HA HS1 HS2 HCl k0 k1
      go_wp2
      go_ret2
      exact ⟨_, by rw [HR.out.1]; rfl, by rw [HR.out.2]; exact Lp.nil _ _, hT⟩
    · have hw3 : wrap64 (3 * (N : Int)) = 3 * (N : Int) := wrap_in _ (by omega)
      go_wp2_with fail
      refine (HS2.out _ hT).mono ?_
      rintro e w4 ⟨rfl, hw⟩
      subst hw
      cases m2
      · have HR : Hid (er = 8 ∧ R = []) := by
          obtain ⟨h1, h2⟩ := HA.out
          simp at h1
          exact ⟨h1, by rw [h2, h1]; rfl⟩
        clear HA HS1 HS2 HCl k0 k1
        go_wp2
        go_ret2
        exact ⟨_, by rw [HR.out.1]; rfl, by rw [HR.out.2]; exact Lp.nil _ _, hT⟩
      · have HR : Hid (er = 0 ∧ R = CL) := by
          obtain ⟨h1, h2⟩ := HA.out
          simp at h1
          exact ⟨h1, by rw [h2, h1]; rfl⟩
        clear HA HS1 HS2
        obtain ⟨a0, a1, a2, az⟩ := k0.three (Below.refl _ _)
        obtain ⟨s0, s1, s2, s3, s4, s5, s6⟩ := k1.seven
        have sz := k1.lt
        go_wp2_with fail
        refine (HCl.out _ hT).mono ?_
        rintro e w5 ⟨v, rfl, hv, hB⟩
        obtain ⟨vo, vc, rfl, hv2⟩ := hv.form
        have HF : Hid (Lp w5 w.heap.size (.slice vo CL.length vc) CL ∧ Below w.heap.size w w5) := ⟨hv2.weak hT.size, then_below hT hB⟩
        clear hv hv2 hB hT k0 k1 a0 a1 a2 az s0 s1 s2 s3 s4 s5 s6 sz HCl
        go_wp2
        go_ret2
        exact ⟨_, by rw [HR.out.1]; rfl, by rw [HR.out.2]; exact HF.out.1, HF.out.2⟩

end Go.Proofs.YtlahfffgmfjpaaaGreatDoor

/-
  What tidehallref12.Every and Many come to, a rotation and a midplane at a time. No program is walked here.
-/
namespace Go.Proofs.YtlahfffgmfjpaaaGreatDoor
open Go Go.RowKit Go.Shelf

theorem kinds_snoc (l : List Wt) (u : Wt) : kindsT (l ++ [u]) = putT (kindsT l) (kindT u) := by simp [kindsT]
theorem kinds_len : ∀ (l : List Wt) (acc : List Wt), (l.foldl (fun acc u => putT acc (kindT u)) acc).length ≤ acc.length + l.length
  | [], acc => by simp
  | u :: l, acc => by
    have h1 := kinds_len l (putT acc (kindT u))
    have h2 := put_len acc (kindT u)
    rw [List.foldl_cons, List.length_cons]
    omega
/-- The rotations among the first i whose kind may be at a midplane. -/
def okAt (d0 d1 d2 m : Int) (u : Wt) : Bool := mayL d0 d1 d2 (plT d0 d1 m (kindT u))
def hereK (d0 d1 d2 m : Int) (Ts : List Wt) (i : Nat) : List Wt := kindsT ((Ts.take i).filter (okAt d0 d1 d2 m))
def hereN (d0 d1 d2 m : Int) (Ts : List Wt) (i : Nat) : List Pl := (hereK d0 d1 d2 m Ts i).map (plT d0 d1 m)
theorem here_zero (d0 d1 d2 m : Int) (Ts : List Wt) : hereN d0 d1 d2 m Ts 0 = [] := by simp [hereN, hereK, kindsT]
theorem here_len (d0 d1 d2 m : Int) (Ts : List Wt) (i : Nat) : (hereN d0 d1 d2 m Ts i).length ≤ i := by
  unfold hereN hereK kindsT
  rw [List.length_map]
  have h1 := kinds_len ((Ts.take i).filter (okAt d0 d1 d2 m)) []
  have h2 := List.length_filter_le (okAt d0 d1 d2 m) (Ts.take i)
  rw [List.length_take] at h2
  simp only [List.length_nil] at h1
  omega
theorem here_no {d0 d1 d2 m : Int} {Ts : List Wt} {i : Nat} {u : Wt} (hi : i < Ts.length) (hu : Ts.getD i default = u) (h : okAt d0 d1 d2 m u = false) : hereN d0 d1 d2 m Ts (i + 1) = hereN d0 d1 d2 m Ts i := by
  have e : Ts[i] = u := by rw [← hu]; simp [hi]
  unfold hereN hereK
  rw [List.take_succ_eq_append_getElem hi, List.filter_append, e]
  simp [h]
theorem here_yes {d0 d1 d2 m : Int} {Ts : List Wt} {i : Nat} {u : Wt} (hl : ∀ u ∈ Ts, mayT u) (hi : i < Ts.length) (hu : Ts.getD i default = u) (h : okAt d0 d1 d2 m u = true) : hereN d0 d1 d2 m Ts (i + 1) = putQ (hereN d0 d1 d2 m Ts i) (plT d0 d1 m (kindT u)) := by
  have e : Ts[i] = u := by rw [← hu]; simp [hi]
  have hm : mayT u := hl u (e ▸ List.getElem_mem hi)
  unfold hereN hereK
  rw [List.take_succ_eq_append_getElem hi, List.filter_append, e]
  rw [show [u].filter (okAt d0 d1 d2 m) = [u] by simp [h], kinds_snoc]
  refine (put_pl ⟨kind_may hm, kind_turn u⟩ fun x hx => ?_).symm
  exact kinds_may (fun v hv => hl v (List.mem_of_mem_take (List.mem_filter.1 hv).1)) hx
theorem here_end {d0 d1 d2 : Int} {m : Nat} {Ts : List Wt} (hl : ∀ u ∈ Ts, mayT u) : hereN d0 d1 d2 m Ts Ts.length = (hereT d0 d1 d2 Ts m).map (plT d0 d1 m) := by
  unfold hereN hereK hereT
  rw [List.take_length]
  congr 1
  have hf : ∀ u ∈ Ts.filter (okAt d0 d1 d2 m), mayT u := fun u hu => hl u (List.mem_filter.1 hu).1
  refine rises_ext (kinds_rises hf) ((kinds_rises hl).sublist List.filter_sublist) fun x => ?_
  rw [kinds_mem hf, List.mem_filter, kinds_mem hl]
  simp only [List.mem_filter]
  constructor
  · rintro ⟨u, ⟨hu, ho⟩, rfl⟩
    exact ⟨⟨u, hu, rfl⟩, ho⟩
  · rintro ⟨⟨u, hu, rfl⟩, ho⟩
    exact ⟨u, ⟨hu, ho⟩, rfl⟩
/-- The places at the first k midplanes. -/
def everyN (d0 d1 d2 : Int) (Ts : List Wt) (k : Nat) : List Pl := (List.range k).flatMap fun m => (hereT d0 d1 d2 Ts m).map (plT d0 d1 m)
theorem every_zero (d0 d1 d2 : Int) (Ts : List Wt) : everyN d0 d1 d2 Ts 0 = [] := rfl
theorem every_next {d0 d1 d2 : Int} {Ts : List Wt} (hl : ∀ u ∈ Ts, mayT u) (m : Nat) : everyN d0 d1 d2 Ts (m + 1) = everyN d0 d1 d2 Ts m ++ hereN d0 d1 d2 m Ts Ts.length := by
  rw [here_end hl]
  unfold everyN
  rw [List.range_succ, List.flatMap_append]
  simp
theorem every_few {d0 d1 d2 : Int} {Ts : List Wt} (hl : ∀ u ∈ Ts, mayT u) : ∀ k : Nat, (everyN d0 d1 d2 Ts k).length ≤ k * Ts.length
  | 0 => by simp [everyN]
  | k + 1 => by
    have h1 := every_few (d0 := d0) (d1 := d1) (d2 := d2) hl k
    have h2 := here_len d0 d1 d2 k Ts Ts.length
    rw [every_next hl, List.length_append, Nat.succ_mul]
    omega

/-- A torus behind k axes. -/
def tN (k i : Nat) (t : Bool) : Bool := decide (i < k) && t

/-- The kinds of the first i rotations, as places at midplane 0; how many there are of these. -/
def seenN (d0 d1 : Int) (Ts : List Wt) (i : Nat) : List Pl := (kindsT (Ts.take i)).map (plT d0 d1 0)
def manyN (d0 d1 d2 : Int) (Ts : List Wt) (i : Nat) : Int := ((Ts.take i).foldl (manyStep d0 d1 d2) ([], 0)).2
theorem seen_zero (d0 d1 : Int) (Ts : List Wt) : seenN d0 d1 Ts 0 = [] := by simp [seenN, kindsT]
theorem seen_len (d0 d1 : Int) (Ts : List Wt) (i : Nat) : (seenN d0 d1 Ts i).length ≤ i := by
  unfold seenN kindsT
  rw [List.length_map]
  have h1 := kinds_len (Ts.take i) []
  rw [List.length_take] at h1
  simp only [List.length_nil] at h1
  omega
theorem seen_next {d0 d1 : Int} {Ts : List Wt} {i : Nat} {u : Wt} (hl : ∀ u ∈ Ts, mayT u) (hi : i < Ts.length) (hu : Ts.getD i default = u) : seenN d0 d1 Ts (i + 1) = putQ (seenN d0 d1 Ts i) (plT d0 d1 0 (kindT u)) := by
  have e : Ts[i] = u := by rw [← hu]; simp [hi]
  have hm : mayT u := hl u (e ▸ List.getElem_mem hi)
  unfold seenN
  rw [List.take_succ_eq_append_getElem hi, e, kinds_snoc]
  refine (put_pl ⟨kind_may hm, kind_turn u⟩ fun x hx => ?_).symm
  exact kinds_may (fun v hv => hl v (List.mem_of_mem_take hv)) hx
theorem manyN_zero (d0 d1 d2 : Int) (Ts : List Wt) : manyN d0 d1 d2 Ts 0 = 0 := rfl
theorem many_end (d0 d1 d2 : Int) (Ts : List Wt) : manyN d0 d1 d2 Ts Ts.length = manyT d0 d1 d2 Ts := by
  unfold manyN
  rw [List.take_length, many_told]
theorem fold_one (d0 d1 d2 : Int) (l : List Wt) : (l.foldl (manyStep d0 d1 d2) ([], 0)).1 = kindsT l := (many_fold d0 d1 d2 l ([], 0) rfl).1
theorem step_two (d0 d1 d2 : Int) (s : List Wt × Int) (u : Wt) : (manyStep d0 d1 d2 s u).2 = s.2 + if fitK d0 d1 d2 (kindT u) && !decide (kindT u ∈ s.1) then manyK d0 d1 d2 (kindT u) else 0 := rfl
theorem ins_len (u : Wt) : ∀ l : List Wt, (insT u l).length = l.length + 1
  | [] => rfl
  | x :: l => by unfold insT; split <;> simp [ins_len u l]
/-- One more is counted just if its kind fits, and the list of those seen has grown. -/
theorem many_next {d0 d1 d2 : Int} {Ts : List Wt} {i : Nat} {u : Wt} (hi : i < Ts.length) (hu : Ts.getD i default = u) :
    manyN d0 d1 d2 Ts (i + 1) = manyN d0 d1 d2 Ts i + if fitK d0 d1 d2 (kindT u) && decide ((seenN d0 d1 Ts i).length < (seenN d0 d1 Ts (i + 1)).length) then manyK d0 d1 d2 (kindT u) else 0 := by
  have e : Ts[i] = u := by rw [← hu]; simp [hi]
  have hk : decide ((seenN d0 d1 Ts i).length < (seenN d0 d1 Ts (i + 1)).length) = !decide (kindT u ∈ kindsT (Ts.take i)) := by
    unfold seenN
    rw [List.length_map, List.length_map, List.take_succ_eq_append_getElem hi, e, kinds_snoc]
    unfold putT
    by_cases h : kindT u ∈ kindsT (Ts.take i)
    · rw [if_pos h, decide_eq_true h]; simp
    · rw [if_neg h, decide_eq_false h, ins_len]; simp
  unfold manyN
  rw [hk, List.take_succ_eq_append_getElem hi, List.foldl_append, e, List.foldl_cons, List.foldl_nil]
  rw [step_two, fold_one]
/-- The product along the axes, as it is gathered. -/
def prodN (d0 d1 d2 x y z : Int) : Nat → Int
  | 0 => 1
  | 1 => sideN d0 x
  | 2 => sideN d0 x * sideN d1 y
  | _ => sideN d0 x * sideN d1 y * sideN d2 z
/-- A box at midplane 0 may be just if it fits. -/
theorem box_fits {d0 d1 d2 : Int} (hd : mayD d0 d1 d2) {x y z : Int} (hx : 1 ≤ x ∧ 1 ≤ y ∧ 1 ≤ z) (f g h t : Bool) : mayBB d0 d1 d2 ⟨0, 0, 0, x, y, z⟩ = fitK d0 d1 d2 (kindT (x, y, z, f, g, h, t)) := by
  obtain ⟨⟨l0, _⟩, ⟨l1, _⟩, l2, _⟩ := hd
  rw [Bool.eq_iff_iff, mayBB_iff]
  simp only [fitK, kindT, withinT, mayB, mayS, Bool.and_eq_true]
  constructor
  · rintro ⟨a0, a1, a2⟩
    exact ⟨⟨decide_eq_true a0.1.2, decide_eq_true a1.1.2⟩, decide_eq_true a2.1.2⟩
  · rintro ⟨⟨f0, f1⟩, f2⟩
    have f0 := of_decide_eq_true f0
    have f1 := of_decide_eq_true f1
    have f2 := of_decide_eq_true f2
    exact ⟨⟨⟨hx.1, f0⟩, by omega, by omega⟩, ⟨⟨hx.2.1, f1⟩, by omega, by omega⟩, ⟨hx.2.2, f2⟩, by omega, by omega⟩
theorem plz (d0 d1 x y z : Int) (f g h t : Bool) : plT d0 d1 0 (x, y, z, f, g, h, t) = (⟨0, 0, 0, x, y, z⟩, f, g, h) := by simp [plT, cx, cy, cz]
theorem side_bd {d s : Int} (h : 1 ≤ d ∧ d ≤ 16) : 0 ≤ sideN d s ∧ sideN d s ≤ 16 := by unfold sideN; split <;> omega
theorem prod_bd {d0 d1 d2 x y z : Int} (hd : mayD d0 d1 d2) (k : Nat) : 0 ≤ prodN d0 d1 d2 x y z k ∧ prodN d0 d1 d2 x y z k ≤ 4096 := by
  have h0 := side_bd (s := x) hd.1
  have h1 := side_bd (s := y) hd.2.1
  have h2 := side_bd (s := z) hd.2.2
  have p1 : 0 ≤ sideN d0 x * sideN d1 y ∧ sideN d0 x * sideN d1 y ≤ 16 * 16 := ⟨Int.mul_nonneg h0.1 h1.1, Int.mul_le_mul h0.2 h1.2 h1.1 (by omega)⟩
  have p2 : 0 ≤ sideN d0 x * sideN d1 y * sideN d2 z ∧ sideN d0 x * sideN d1 y * sideN d2 z ≤ 16 * 16 * 16 := ⟨Int.mul_nonneg p1.1 h2.1, Int.mul_le_mul p1.2 h2.2 h2.1 (by omega)⟩
  match k with
  | 0 => exact ⟨(by decide : (0 : Int) ≤ 1), (by decide : (1 : Int) ≤ 4096)⟩
  | 1 => exact ⟨h0.1, Int.le_trans h0.2 (by decide)⟩
  | 2 => exact ⟨p1.1, Int.le_trans p1.2 (by decide)⟩
  | n + 3 => exact ⟨p2.1, Int.le_trans p2.2 (by decide)⟩
theorem prod_end (d0 d1 d2 x y z : Int) (f g h t : Bool) : manyK d0 d1 d2 (kindT (x, y, z, f, g, h, t)) = prodN d0 d1 d2 x y z 3 := rfl
theorem many_bd {d0 d1 d2 : Int} (hd : mayD d0 d1 d2) {Ts : List Wt} : ∀ i : Nat, i ≤ Ts.length → 0 ≤ manyN d0 d1 d2 Ts i ∧ manyN d0 d1 d2 Ts i ≤ 4096 * (i : Int)
  | 0, _ => by rw [manyN_zero]; omega
  | i + 1, h => by
    have ih := many_bd hd (Ts := Ts) i (by omega)
    obtain ⟨x, y, z, f, g, h', t, hu⟩ : ∃ x y z f g h' t, Ts.getD i default = (x, y, z, f, g, h', t) := ⟨_, _, _, _, _, _, _, rfl⟩
    have hb := prod_bd (x := x) (y := y) (z := z) hd 3
    rw [many_next (by omega) hu, prod_end]
    split <;> omega
/-- What Many answers. -/
def mnE (d0 d1 d2 : Int) (u : Wt) : Int := if okDB d0 d1 d2 && okDB u.1 u.2.1 u.2.2.1 then 0 else 8
def mnV (d0 d1 d2 : Int) (u : Wt) : Int := if okDB d0 d1 d2 && okDB u.1 u.2.1 u.2.2.1 then manyT d0 d1 d2 (turnsT u) else 0

end Go.Proofs.YtlahfffgmfjpaaaGreatDoor

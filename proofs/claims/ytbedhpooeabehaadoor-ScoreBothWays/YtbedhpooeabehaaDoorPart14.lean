/-
  box.Nodes: a box's midplanes, rising, in new memory.
-/
import Derived.Test.YtbedhpooeabehaaDoorPart13
import Derived.Test.YtbedhpooeabehaaDoorPart12
import Derived.Test.YtbedhpooeabehaaDoorPart7
import Derived.Test.YtbedhpooeabehaaDoorPart10
import Derived.Test.YtbedhpooeabehaaDoorPart3
namespace Go.Proofs.YtbedhpooeabehaaDoor
open Go.RowKit Go.Shelf

attribute [local go_sem] Oper.semAt_some ext_const

set_option maxHeartbeats 1000000 in
theorem bnodes_err {d0 d1 d2 : Int} {b : Bx} (w : World) (he : (errB d0 d1 d2 b != 0) = true) :
    Calls Tryd.prog 40 #[A3 d0 d1 d2, B6 b] w fun e W' => e = .returned (.tuple #[.slice none 0 0, I (errB d0 d1 d2 b)]) ∧ Below w.heap.size w W' := by
  go_enter Tryd.func40, Tryd.ntmps40
  go_wp2_with fail
  obtain ⟨W, hW, hs, hB0, b0, b1, b2⟩ := three_start w #[I d0, I d1, I d2] (C6 b) (C6 b) 26 29 29
  rw [hW]
  clear hW
  refine (chk1 _ _ b2).mono ?_
  rintro e w1 ⟨rfl, hB⟩
  go_wp2
  go_ret2
  exact ⟨rfl, then_below hB0 hB⟩

/-- What each operation of the statement that makes the three lists keeps. -/
def wordN (d0 d1 d2 : Int) (b : Bx) (base : Nat) (X Y Z : List Int) (i : Nat) (v : Value) (w : World) : Prop :=
  match i with
  | 0 => v = A3 d0 d1 d2
  | 1 => v = B6 b
  | 2 => v = A3 d0 b.x b.a
  | 3 => Lst w base v X
  | 4 => v = A3 d0 d1 d2
  | 5 => v = B6 b
  | 6 => v = A3 d1 b.y b.b
  | 7 => Lst w base v Y
  | 8 => v = A3 d0 d1 d2
  | 9 => v = B6 b
  | 10 => v = A3 d2 b.z b.c
  | 11 => Lst w base v Z
  | 12 => Lst w base v X
  | 13 => Lst w base v Y
  | 14 => Lst w base v Z
  | _ => False
theorem wordN_later {d0 d1 d2 : Int} {b : Bx} {base : Nat} {X Y Z : List Int} (i : Nat) (v : Value) (w w' : World) (h : wordN d0 d1 d2 b base X Y Z i v w) (hB : Below w.heap.size w w') : wordN d0 d1 d2 b base X Y Z i v w' := by
  match i, h with
  | 0, h => exact h
  | 1, h => exact h
  | 2, h => exact h
  | 3, h => exact h.later hB
  | 4, h => exact h
  | 5, h => exact h
  | 6, h => exact h
  | 7, h => exact h.later hB
  | 8, h => exact h
  | 9, h => exact h
  | 10, h => exact h
  | 11, h => exact h.later hB
  | 12, h => exact h.later hB
  | 13, h => exact h.later hB
  | 14, h => exact h.later hB
  | n + 15, h => exact h.elim

set_option maxRecDepth 100000 in
set_option maxHeartbeats 4000000 in
theorem bnodes_ok {d0 d1 d2 : Int} {b : Bx} (w : World) (hm : mayD d0 d1 d2) (hb : mayB d0 d1 d2 b) :
    Calls Tryd.prog 40 #[A3 d0 d1 d2, B6 b] w fun e W' => ∃ v, e = .returned (.tuple #[v, I 0]) ∧ Lst W' w.heap.size v (nodesB d0 d1 d2 b) ∧ Below w.heap.size w W' := by
  have H0 : Hid (errB d0 d1 d2 b = 0) := errB_ok hm hb
  have hmx : Tryd.prog.follows .mixedOrders = true := by kernel_rfl
  have HM : Hid (mayD d0 d1 d2) := hm
  have HB : Hid (mayB d0 d1 d2 b) := hb
  have HT : Hid (eqO d0 d1 (coordsS d0 b.x b.a) (coordsS d1 b.y b.b) (coordsS d2 b.z b.c) (nodesB d0 d1 d2 b) [] 0) := nodesB_flat hm
  have hlen : (nodesB d0 d1 d2 b).length ≤ 4096 := nodesB_len hm b
  have hm' := hm
  obtain ⟨⟨g0, g1⟩, ⟨g2, g3⟩, g4, g5⟩ := hm'
  have lX : (coordsS d0 b.x b.a).length ≤ 16 := coordsS_len g1
  have lY : (coordsS d1 b.y b.b).length ≤ 16 := coordsS_len g3
  have lZ : (coordsS d2 b.z b.c).length ≤ 16 := coordsS_len g5
  have HX : Hid (∀ k : Nat, k < (coordsS d0 b.x b.a).length → 0 ≤ (coordsS d0 b.x b.a).getD k 0 ∧ (coordsS d0 b.x b.a).getD k 0 < d0) := fun k hk => coordsS_get (by omega) hk
  have HY : Hid (∀ k : Nat, k < (coordsS d1 b.y b.b).length → 0 ≤ (coordsS d1 b.y b.b).getD k 0 ∧ (coordsS d1 b.y b.b).getD k 0 < d1) := fun k hk => coordsS_get (by omega) hk
  have HZ : Hid (∀ k : Nat, k < (coordsS d2 b.z b.c).length → 0 ≤ (coordsS d2 b.z b.c).getD k 0 ∧ (coordsS d2 b.z b.c).getD k 0 < d2) := fun k hk => coordsS_get (by omega) hk
  have KX : Hid (∀ w : World, Calls Tryd.prog 51 #[A3 d0 b.x b.a] w fun e W' => ∃ v, e = .returned v ∧ Lst W' w.heap.size v (coordsS d0 b.x b.a) ∧ Below w.heap.size w W') := fun w => coords_calls w HM.out.1.2 HB.out.1
  have KY : Hid (∀ w : World, Calls Tryd.prog 51 #[A3 d1 b.y b.b] w fun e W' => ∃ v, e = .returned v ∧ Lst W' w.heap.size v (coordsS d1 b.y b.b) ∧ Below w.heap.size w W') := fun w => coords_calls w HM.out.2.1.2 HB.out.2.1
  have KZ : Hid (∀ w : World, Calls Tryd.prog 51 #[A3 d2 b.z b.c] w fun e W' => ∃ v, e = .returned v ∧ Lst W' w.heap.size v (coordsS d2 b.z b.c) ∧ Below w.heap.size w W') := fun w => coords_calls w HM.out.2.2.2 HB.out.2.2
  obtain ⟨z0, z1, z2⟩ := sizes_bd hm hb
  have KM : Hid (∀ w : World, Calls Tryd.prog 52 #[B6 b] w fun e W' => e = .returned (I (manyB b)) ∧ Below w.heap.size w W') := fun w => bmany_calls w z0 z1 z2
  have hmb : 0 ≤ manyB b ∧ manyB b ≤ 16 * 16 * 16 := by
    have p1 : 0 ≤ b.a * b.b ∧ b.a * b.b ≤ 16 * 16 := mul_bd (by omega) z0.2 (by omega) z1.2
    exact mul_bd p1.1 p1.2 (by omega) z2.2
  obtain ⟨hmb0, hmb1⟩ := hmb
  generalize manyB b = M at KM hmb0 hmb1
  clear z0 z1 z2
  generalize coordsS d0 b.x b.a = X at HT lX HX KX
  generalize coordsS d1 b.y b.b = Y at HT lY HY KY
  generalize coordsS d2 b.z b.c = Z at HT lZ HZ KZ
  generalize nodesB d0 d1 d2 b = T at HT hlen ⊢
  go_enter Tryd.func40, Tryd.ntmps40
  go_wp2_with fail
  obtain ⟨W, hW, hs, hB0, b0, b1, b2⟩ := three_start w #[I d0, I d1, I d2] (C6 b) (C6 b) 26 29 29
  rw [hW]
  clear hW
  refine (chk1 _ _ b2).mono ?_
  rintro e w1 ⟨rfl, hT⟩
  rw [H0.out]
  have q0 := b0.later hT
  have q1 := b1.later hT
  have hB1 := then_below hB0 hT
  clear b0 b1 b2 hT hB0
  go_wp2_with fail
  refine wp_region_loud (w0 := w1) (wordN d0 d1 d2 b w1.heap.size X Y Z) hmx (by kernel_rfl) wordN_later ?_ ?_
  · intro i o hi a w' hT hL hpre
    have t2 : a.tmps.getD 2 undef = .pointer (some ⟨w.heap.size, 0, none⟩) := by
      rw [Array.getD_eq_getD_getElem?, hL.out 2 (of_decide_eq_true (by kernel_rfl))]; rfl
    have t3 : a.tmps.getD 3 undef = .pointer (some ⟨w.heap.size + 1, 0, none⟩) := by
      rw [Array.getD_eq_getD_getElem?, hL.out 3 (of_decide_eq_true (by kernel_rfl))]; rfl
    obtain ⟨c0, c1, c2, hz⟩ := q0.three hT
    obtain ⟨⟨k0, k1, k2⟩, ⟨k3, k4, k5⟩, hz1⟩ := q1.six hT
    clear hL
    match i, hi with
    | 0, hi =>
      obtain rfl := Option.some.inj hi
      refine .inl ⟨A3 d0 d1 d2, ?_, rfl⟩
      simp [execOp, go_sem, Act.eval, t2, c0, c1, c2]
    | 1, hi =>
      obtain rfl := Option.some.inj hi
      refine .inl ⟨B6 b, ?_, rfl⟩
      simp [execOp, go_sem, Act.eval, t3, k0, k1, k2, k3, k4, k5]
    | 2, hi =>
      obtain rfl := Option.some.inj hi
      have p0 : a.tmps.getD 26 undef = A3 d0 d1 d2 := hpre ⟨0, .data⟩ (by simp) rfl
      have p1 : a.tmps.getD 27 undef = B6 b := hpre ⟨1, .data⟩ (by simp) rfl
      refine .inr ⟨50, #[A3 d0 d1 d2, B6 b, I 0], ?_, ?_⟩
      · simp [go_sem, Act.eval, p0, p1]
      · refine (side_calls d0 d1 d2 b 0 w').mono ?_
        rintro e w'' ⟨rfl, hB⟩
        exact ⟨_, rfl, hB, rfl⟩
    | 3, hi =>
      obtain rfl := Option.some.inj hi
      have p0 : a.tmps.getD 28 undef = A3 d0 b.x b.a := hpre ⟨2, .data⟩ (by simp) rfl
      refine .inr ⟨51, #[A3 d0 b.x b.a], ?_, ?_⟩
      · simp [go_sem, Act.eval, p0]
      · refine (KX.out w').mono ?_
        rintro e w'' ⟨v, rfl, hl, hB⟩
        exact ⟨_, rfl, hB, hl.weak hT.size⟩
    | 4, hi =>
      obtain rfl := Option.some.inj hi
      refine .inl ⟨A3 d0 d1 d2, ?_, rfl⟩
      simp [execOp, go_sem, Act.eval, t2, c0, c1, c2]
    | 5, hi =>
      obtain rfl := Option.some.inj hi
      refine .inl ⟨B6 b, ?_, rfl⟩
      simp [execOp, go_sem, Act.eval, t3, k0, k1, k2, k3, k4, k5]
    | 6, hi =>
      obtain rfl := Option.some.inj hi
      have p0 : a.tmps.getD 30 undef = A3 d0 d1 d2 := hpre ⟨4, .data⟩ (by simp) rfl
      have p1 : a.tmps.getD 31 undef = B6 b := hpre ⟨5, .data⟩ (by simp) rfl
      refine .inr ⟨50, #[A3 d0 d1 d2, B6 b, I 1], ?_, ?_⟩
      · simp [go_sem, Act.eval, p0, p1]
      · refine (side_calls d0 d1 d2 b 1 w').mono ?_
        rintro e w'' ⟨rfl, hB⟩
        exact ⟨_, rfl, hB, rfl⟩
    | 7, hi =>
      obtain rfl := Option.some.inj hi
      have p0 : a.tmps.getD 32 undef = A3 d1 b.y b.b := hpre ⟨6, .data⟩ (by simp) rfl
      refine .inr ⟨51, #[A3 d1 b.y b.b], ?_, ?_⟩
      · simp [go_sem, Act.eval, p0]
      · refine (KY.out w').mono ?_
        rintro e w'' ⟨v, rfl, hl, hB⟩
        exact ⟨_, rfl, hB, hl.weak hT.size⟩
    | 8, hi =>
      obtain rfl := Option.some.inj hi
      refine .inl ⟨A3 d0 d1 d2, ?_, rfl⟩
      simp [execOp, go_sem, Act.eval, t2, c0, c1, c2]
    | 9, hi =>
      obtain rfl := Option.some.inj hi
      refine .inl ⟨B6 b, ?_, rfl⟩
      simp [execOp, go_sem, Act.eval, t3, k0, k1, k2, k3, k4, k5]
    | 10, hi =>
      obtain rfl := Option.some.inj hi
      have p0 : a.tmps.getD 34 undef = A3 d0 d1 d2 := hpre ⟨8, .data⟩ (by simp) rfl
      have p1 : a.tmps.getD 35 undef = B6 b := hpre ⟨9, .data⟩ (by simp) rfl
      refine .inr ⟨50, #[A3 d0 d1 d2, B6 b, I 2], ?_, ?_⟩
      · simp [go_sem, Act.eval, p0, p1]
      · refine (side_calls d0 d1 d2 b 2 w').mono ?_
        rintro e w'' ⟨rfl, hB⟩
        exact ⟨_, rfl, hB, rfl⟩
    | 11, hi =>
      obtain rfl := Option.some.inj hi
      have p0 : a.tmps.getD 36 undef = A3 d2 b.z b.c := hpre ⟨10, .data⟩ (by simp) rfl
      refine .inr ⟨51, #[A3 d2 b.z b.c], ?_, ?_⟩
      · simp [go_sem, Act.eval, p0]
      · refine (KZ.out w').mono ?_
        rintro e w'' ⟨v, rfl, hl, hB⟩
        exact ⟨_, rfl, hB, hl.weak hT.size⟩
    | 12, hi =>
      obtain rfl := Option.some.inj hi
      have p0 : Lst w' w1.heap.size (a.tmps.getD 29 undef) _ := hpre ⟨3, .data⟩ (by simp) rfl
      refine .inl ⟨a.tmps.getD 29 undef, ?_, p0⟩
      simp [execOp, go_sem, Act.eval]
    | 13, hi =>
      obtain rfl := Option.some.inj hi
      have p0 : Lst w' w1.heap.size (a.tmps.getD 33 undef) _ := hpre ⟨7, .data⟩ (by simp) rfl
      refine .inl ⟨a.tmps.getD 33 undef, ?_, p0⟩
      simp [execOp, go_sem, Act.eval]
    | 14, hi =>
      obtain rfl := Option.some.inj hi
      have p0 : Lst w' w1.heap.size (a.tmps.getD 37 undef) _ := hpre ⟨11, .data⟩ (by simp) rfl
      refine .inl ⟨a.tmps.getD 37 undef, ?_, p0⟩
      simp [execOp, go_sem, Act.eval]
    | n + 15, hi => simp at hi
  · intro v w' hT hall
    have hX : Lst w' w1.heap.size (v 12) X := hall 12 (of_decide_eq_true (by kernel_rfl))
    have hY : Lst w' w1.heap.size (v 13) Y := hall 13 (of_decide_eq_true (by kernel_rfl))
    have hZ : Lst w' w1.heap.size (v 14) Z := hall 14 (of_decide_eq_true (by kernel_rfl))
    clear hall
    obtain ⟨aX, cX, eX, vX⟩ := hX.view
    obtain ⟨aY, cY, eY, vY⟩ := hY.view
    obtain ⟨aZ, cZ, eZ, vZ⟩ := hZ.view
    have VX : Hid (∀ k : Nat, k < X.length → ∃ g cur, aX = some ⟨g, 0, none⟩ ∧ Blk w' g 3 cur ∧ cur[k]? = some (I (X.getD k 0))) := vX
    have VY : Hid (∀ k : Nat, k < Y.length → ∃ g cur, aY = some ⟨g, 0, none⟩ ∧ Blk w' g 3 cur ∧ cur[k]? = some (I (Y.getD k 0))) := vY
    have VZ : Hid (∀ k : Nat, k < Z.length → ∃ g cur, aZ = some ⟨g, 0, none⟩ ∧ Blk w' g 3 cur ∧ cur[k]? = some (I (Z.getD k 0))) := vZ
    clear hX hY hZ vX vY vZ KX KY KZ
    have q0 := q0.later hT
    have q1 := q1.later hT
    have hB1 := then_below hB1 hT
    clear hT
    simp only [List.length_cons, List.length_nil, Nat.zero_add, Nat.reduceAdd, List.range, List.range.loop, List.foldl_cons, List.foldl_nil, dstOf, List.getElem?_cons_zero, List.getElem?_cons_succ, Option.getD_some, Act.put, eX, eY, eZ]
    obtain ⟨⟨k0, k1, k2⟩, ⟨k3, k4, k5⟩, hz1⟩ := q1.six (Below.refl _ _)
    clear eX eY eZ
    generalize v 0 = v0
    generalize v 1 = v1
    generalize v 2 = v2
    generalize v 4 = v4
    generalize v 5 = v5
    generalize v 6 = v6
    generalize v 8 = v8
    generalize v 9 = v9
    generalize v 10 = v10
    generalize v 3 = v3
    generalize v 7 = v7
    generalize v 11 = v11
    clear v
    go_wp2_with fail
    refine (KM.out _).mono ?_
    rintro e w2 ⟨rfl, hT2⟩
    clear k0 k1 k2 k3 k4 k5 hz1
    go_wp2_with (at_make; refine wpList_mk (base := w'.heap.size) rfl _ _ rfl M rfl rfl hmb0 (by omega) hT2.size ?_; intro vL w3 hL3 hT3)
    have hT3 := hT2.trans hT3
    clear hT2
    go_loopw [10, 43] (fun v i wr => ∃ (I' : Nat) (L : List Int), I' ≤ Z.length ∧ i = .int .i64 I' ∧ Lst wr w'.heap.size v L ∧ eqO d0 d1 X Y Z T L I' ∧ Below w'.heap.size w' wr) (fun _ i _ => Z.length - (RowKit.intOf i).toNat)
    case atStart => exact ⟨0, [], by omega, rfl, hL3, HT.out, hT3⟩
    case round =>
      clear hL3 hT3
      obtain ⟨i, L, hi, rfl, hL, hE, hT⟩ := hrel
      by_cases hlt : (i : Int) < (Z.length : Int)
      · obtain ⟨g, cur, rfl, hg, hc⟩ := VZ.out i (by omega)
        have c0 := (hg.later hT).cell i
        rw [hc] at c0
        clear hg hc
        have EM := eqO_in (by omega) hE
        have RZ : Hid (0 ≤ Z.getD i 0 ∧ Z.getD i 0 < d2) := HZ.out i (by omega)
        clear hE
        obtain ⟨z, hz⟩ : ∃ z, z = Z.getD i 0 := ⟨_, rfl⟩
        rw [← hz] at c0 RZ
        have HZz : Hid (z = Z.getD i 0) := hz
        clear hz
        go_wp2
        go_loopw [10, 49] (fun v j wr => ∃ (J : Nat) (L : List Int), J ≤ Y.length ∧ j = .int .i64 J ∧ Lst wr w'.heap.size v L ∧ eqM d0 d1 X Y Z T L i J ∧ Below w'.heap.size w' wr) (fun _ j _ => Y.length - (RowKit.intOf j).toNat)
        case atStart => exact ⟨0, L, by omega, rfl, hL, EM, hT⟩
        case round =>
          clear hL hT EM c0
          obtain ⟨j, L, hj, rfl, hL, hE, hT⟩ := hrel
          by_cases hlt : (j : Int) < (Y.length : Int)
          · obtain ⟨g', cur', rfl, hg', hc'⟩ := VY.out j (by omega)
            have c0 := (hg'.later hT).cell j
            rw [hc'] at c0
            clear hg' hc'
            have EI := eqM_in (by omega) hE
            have RY : Hid (0 ≤ Y.getD j 0 ∧ Y.getD j 0 < d1) := HY.out j (by omega)
            clear hE
            obtain ⟨y, hy⟩ : ∃ y, y = Y.getD j 0 := ⟨_, rfl⟩
            rw [← hy] at c0 RY
            have HYy : Hid (y = Y.getD j 0) := hy
            clear hy
            go_wp2
            go_loopw [10, 55] (fun v k wr => ∃ (K : Nat) (L : List Int), K ≤ X.length ∧ k = .int .i64 K ∧ Lst wr w'.heap.size v L ∧ eqI d0 d1 X Y Z T L i j K ∧ Below w'.heap.size w' wr) (fun _ k _ => X.length - (RowKit.intOf k).toNat)
            case atStart => exact ⟨0, L, by omega, rfl, hL, EI, hT⟩
            case round =>
              clear hL hT EI c0
              obtain ⟨k, L, hk, rfl, hL, hE, hT⟩ := hrel
              by_cases hlt : (k : Int) < (X.length : Int)
              · obtain ⟨g'', cur'', rfl, hg'', hc''⟩ := VX.out k (by omega)
                have c0 := (hg''.later hT).cell k
                rw [hc''] at c0
                clear hg'' hc''
                obtain ⟨d0', d1', d2', hz⟩ := q0.three hT
                have RX : Hid (0 ≤ X.getD k 0 ∧ X.getD k 0 < d0) := HX.out k (by omega)
                have hll : L.length ≤ 100000 := by have := eqI_len hE; omega
                have EI := eqI_step (by omega) hE
                rw [← HYy.out, ← HZz.out] at EI
                clear hE
                generalize X.getD k 0 = x at c0 RX EI
                have KA : Hid (∀ w : World, Calls Tryd.prog 53 #[A3 d0 d1 d2, A3 x y z] w fun e W' => e = .returned (.tuple #[I (numD d0 d1 x y z), I 0]) ∧ Below w.heap.size w W') := fun w => at_yes w HM.out ⟨RX.out, RY.out, RZ.out⟩
                generalize numD d0 d1 x y z = N at KA EI
                go_wp2_with fail
                refine (KA.out _).mono ?_
                rintro e w4 ⟨rfl, hB4⟩
                have hL := hL.later hB4
                have hT := then_below hT hB4
                clear hB4 c0 d0' d1' d2' hz
                go_wp2_with (at_builtin; refine wpList_app rfl _ _ rfl rfl rfl hL hll hT.size ?_; intro v' w5 hL5 hT5)
                have hT := hT.trans hT5
                clear hT5 hL
                go_roundw
                case rel => exact ⟨k + 1, _, by omega, by go_num, hL5, EI, hT⟩
                case measure => simp [RowKit.intOf]; omega
              · have EO := eqI_out (by omega) hE
                clear hE
                go_wp2
                go_roundw
                case rel => exact ⟨j + 1, L, by omega, by go_num, hL, EO, hT⟩
                case measure => simp [RowKit.intOf]; omega
          · have EO := eqM_out (by omega) hE
            clear hE
            go_wp2
            go_roundw
            case rel => exact ⟨i + 1, L, by omega, by go_num, hL, EO, hT⟩
            case measure => simp [RowKit.intOf]; omega
      · have E := eqO_out (by omega) hE
        subst E
        have hL' := hL.weak hB1.size
        clear hL hE
        go_wp2
        go_ret2
        exact ⟨_, rfl, hL', then_below hB1 hT⟩

end Go.Proofs.YtbedhpooeabehaaDoor

/-
  Plain arithmetic: a box's midplanes as a set, as rows of words. No program is walked here.
-/
namespace Go.Proofs.YtbedhpooeabehaaDoor
open Go Go.RowKit

/-- The midplanes of a place, as a set. -/
def midW (d0 d1 d2 : Int) (b : Bx) : List Nat := setOf (d0 * d1 * d2) (fun j : Nat => hasB d0 d1 d2 b (j : Int))
theorem nodes_in (d0 d1 d2 : Int) (b : Bx) (j : Nat) : inL (nodesB d0 d1 d2 b) j = (decide (j < (d0 * d1 * d2).toNat) && hasB d0 d1 d2 b (j : Int)) := by
  have := inL_ofN ((List.range (d0 * d1 * d2).toNat).filter (fun m : Nat => hasB d0 d1 d2 b m)) j
  unfold nodesB nodesTo
  unfold ofN at this
  rw [this, Bool.eq_iff_iff, List.contains_iff_mem, List.mem_filter, List.mem_range, Bool.and_eq_true, decide_eq_true_eq]
theorem nodesP_mem {d0 d1 d2 : Int} {b : Bx} {x : Int} : x ∈ nodesB d0 d1 d2 b ↔ (0 ≤ x ∧ x < d0 * d1 * d2) ∧ hasB d0 d1 d2 b x = true := by
  unfold nodesB nodesTo
  rw [List.mem_map]
  constructor
  · rintro ⟨m, hm, rfl⟩
    rw [List.mem_filter, List.mem_range] at hm
    exact ⟨by omega, hm.2⟩
  · rintro ⟨h1, h2⟩
    refine ⟨x.toNat, ?_, by omega⟩
    rw [List.mem_filter, List.mem_range, Int.toNat_of_nonneg h1.1]
    exact ⟨by omega, h2⟩
theorem nodes_ok {d0 d1 d2 : Int} (h : mayD d0 d1 d2) (b : Bx) : ofOk (d0 * d1 * d2) (nodesB d0 d1 d2 b) = true := by
  have := N_bd h
  exact ofOk_all (by omega) (by omega) fun x hx => (nodesP_mem.1 hx).1
theorem mid_of {d0 d1 d2 : Int} {b : Bx} {ws : List Nat} (h : mayD d0 d1 d2) (ho : OfIs (d0 * d1 * d2) (nodesB d0 d1 d2 b) ws) : ws = midW d0 d1 d2 b :=
  setOf_of ho (nodes_ok h b) (nodes_in d0 d1 d2 b)
theorem mid_list {d0 d1 d2 : Int} (h : mayD d0 d1 d2) (b : Bx) : listR (d0 * d1 * d2) (midW d0 d1 d2 b) = nodesB d0 d1 d2 b := by
  have := N_bd h
  unfold midW
  rw [setOf_list (by omega) (by omega)]
  rfl

end Go.Proofs.YtbedhpooeabehaaDoor

/-
  Plain arithmetic of places: the sets that a place takes, as rows of words; what it passes. No program is walked here.
-/
namespace Go.Proofs.YtbedhpooeabehaaDoor
open Go Go.RowKit

/-- A place may be: its box is canonical, and a torus along no axis along which it is one long. -/
def mayP (d0 d1 d2 : Int) (b : Bx) (t0 t1 t2 : Bool) : Prop := mayB d0 d1 d2 b ∧ canonB d0 d1 d2 b = b ∧ ∀ k, tK t0 t1 t2 k = true → sAt b k ≠ 1
def torB (b : Bx) (t0 t1 t2 : Bool) : Bool := (t0 && b.a == 1) || (t1 && b.b == 1) || (t2 && b.c == 1)
theorem torB_iff {b : Bx} {t0 t1 t2 : Bool} : torB b t0 t1 t2 = false ↔ ∀ k, tK t0 t1 t2 k = true → sAt b k ≠ 1 := by
  have e : (torB b t0 t1 t2 = false) ↔ ((t0 = true → b.a ≠ 1) ∧ (t1 = true → b.b ≠ 1) ∧ (t2 = true → b.c ≠ 1)) := by
    unfold torB
    cases t0 <;> cases t1 <;> cases t2 <;> simp [and_assoc]
  rw [e]
  constructor
  · rintro ⟨h0, h1, h2⟩ k
    rcases fin3 k with rfl | rfl | rfl
    · exact h0
    · exact h1
    · exact h2
  · intro h
    exact ⟨h 0, h 1, h 2⟩

theorem most_run {d0 d1 d2 : Int} {b : Bx} {t0 t1 t2 : Bool} (hp : mayP d0 d1 d2 b t0 t1 t2) (k : Fin 3) : mostW (dimAt d0 d1 d2 k) (sAt b k) (tK t0 t1 t2 k) = runS (dimAt d0 d1 d2 k) (sAt b k) (tK t0 t1 t2 k) := by
  have h1 := (mayB_at hp.1 k).1
  have h2 := hp.2.2 k
  unfold mostW runS
  cases ht : tK t0 t1 t2 k
  · simp
  · have := h2 ht
    rw [if_pos ⟨rfl, by omega⟩, if_pos rfl]

theorem takes_wired {d0 d1 d2 m : Int} {b : Bx} {t0 t1 t2 : Bool} (h : mayD d0 d1 d2) (hp : mayP d0 d1 d2 b t0 t1 t2) (hm : 0 ≤ m ∧ m < d0 * d1 * d2) {k : Fin 3} (ht : takes d0 d1 d2 b t0 t1 t2 k m = true) : 1 < dimAt d0 d1 d2 k := by
  have hd := dimAt_ok h k
  unfold okD at hd
  have hs := mayB_at hp.1 k
  unfold mayS at hs
  unfold takes boxK at ht
  have u := (upB_has.1 ht).1
  have hbd := aft_bd hs.2 (co_bd h hm k)
  unfold hasS at u
  have u := of_decide_eq_true u
  have h2 := hp.2.2 k
  unfold runS at u
  cases hk : tK t0 t1 t2 k
  · rw [hk, if_neg (by simp)] at u
    omega
  · have := h2 hk
    omega

/-- Its cables, as a set. -/
def cabsW (d0 d1 d2 : Int) (b : Bx) (t0 t1 t2 : Bool) : List Nat := setOf (3 * (d0 * d1 * d2)) (fun j : Nat => cabB d0 d1 d2 b t0 t1 t2 (j : Int))


/-- The cables that a place takes along an axis, line by line, and all of them. -/
def cabK (d0 d1 d2 : Int) (b : Bx) (t0 t1 t2 : Bool) (k : Fin 3) : List Int := (nodesB d0 d1 d2 (upB b 1 k)).flatMap fun m => cablesW d0 d1 d2 m k (mostW (dimAt d0 d1 d2 k) (sAt b k) (tK t0 t1 t2 k)).toNat
def cabsL (d0 d1 d2 : Int) (b : Bx) (t0 t1 t2 : Bool) : List Int := cabK d0 d1 d2 b t0 t1 t2 0 ++ cabK d0 d1 d2 b t0 t1 t2 1 ++ cabK d0 d1 d2 b t0 t1 t2 2

theorem hasS_one {r b c : Int} (hb : 0 ≤ b ∧ b < r) (hc : 0 ≤ c ∧ c < r) : hasS r b 1 c = true ↔ c = b := by
  have := aft_bd hb hc
  simp only [hasS, decide_eq_true_eq]
  unfold aft at this ⊢
  split <;> omega
theorem first_has {d0 d1 d2 m : Int} {b : Bx} (h : mayD d0 d1 d2) (hb : mayB d0 d1 d2 b) (hm : 0 ≤ m ∧ m < d0 * d1 * d2) (k : Fin 3) : hasB d0 d1 d2 (upB b 1 k) m = true ↔ hasB d0 d1 d2 b m = true ∧ coK d0 d1 m k = bAt b k := by
  rw [upB_has, hasS_one (mayB_at hb k).2 (co_bd h hm k), hasB_iff]
  constructor
  · rintro ⟨h1, h2⟩
    refine ⟨fun j => ?_, h1⟩
    by_cases hj : j = k
    · subst hj; rw [h1]; exact hasS_base (mayB_at hb j)
    · exact h2 j hj
  · rintro ⟨h1, h2⟩
    exact ⟨h2, fun j _ => h1 j⟩
theorem first_may {d0 d1 d2 : Int} {b : Bx} (h : mayD d0 d1 d2) (hb : mayB d0 d1 d2 b) (k : Fin 3) : mayB d0 d1 d2 (upB b 1 k) := by
  obtain ⟨⟨_, u0⟩, ⟨_, u1⟩, _, u2⟩ := h
  obtain ⟨h0, h1, h2⟩ := hb
  unfold mayS at h0 h1 h2
  rcases fin3 k with rfl | rfl | rfl
  · refine ⟨⟨?_, h0.2⟩, h1, h2⟩
    show (1 : Int) ≤ 1 ∧ (1 : Int) ≤ d0
    omega
  · refine ⟨h0, ⟨?_, h1.2⟩, h2⟩
    show (1 : Int) ≤ 1 ∧ (1 : Int) ≤ d1
    omega
  · refine ⟨h0, h1, ⟨?_, h2.2⟩⟩
    show (1 : Int) ≤ 1 ∧ (1 : Int) ≤ d2
    omega

theorem cabK_mem {d0 d1 d2 : Int} {b : Bx} {t0 t1 t2 : Bool} (h : mayD d0 d1 d2) (hp : mayP d0 d1 d2 b t0 t1 t2) (k : Fin 3) {n : Int} :
    n ∈ cabK d0 d1 d2 b t0 t1 t2 k ↔ ∃ o, (0 ≤ o ∧ o < d0 * d1 * d2) ∧ takes d0 d1 d2 b t0 t1 t2 k o = true ∧ n = cabW d0 d1 d2 k o := by
  have hz := runS_bd (r := dimAt d0 d1 d2 k) (s := sAt b k) (tK t0 t1 t2 k) (mayB_at hp.1 k).1
  have L := line_mem h hp.1 k hz (n := n)
  unfold cabK
  rw [most_run hp k, List.mem_flatMap]
  constructor
  · rintro ⟨m, hm, hn⟩
    obtain ⟨hmN, hf⟩ := nodesP_mem.1 hm
    obtain ⟨f1, f2⟩ := (first_has h hp.1 hmN k).1 hf
    obtain ⟨_, o, ho, hu, e⟩ := L.1 ⟨m, hmN, f1, f2, hn⟩
    exact ⟨o, ho, hu, e⟩
  · rintro ⟨o, ho, hu, e⟩
    obtain ⟨m, hmN, f1, f2, hn⟩ := L.2 ⟨takes_wired h hp ho hu, o, ho, hu, e⟩
    exact ⟨m, nodesP_mem.2 ⟨hmN, (first_has h hp.1 hmN k).2 ⟨f1, f2⟩⟩, hn⟩
theorem cabsL_mem {d0 d1 d2 : Int} {b : Bx} {t0 t1 t2 : Bool} (h : mayD d0 d1 d2) (hp : mayP d0 d1 d2 b t0 t1 t2) {n : Int} :
    n ∈ cabsL d0 d1 d2 b t0 t1 t2 ↔ ∃ (k : Fin 3) (o : Int), (0 ≤ o ∧ o < d0 * d1 * d2) ∧ takes d0 d1 d2 b t0 t1 t2 k o = true ∧ n = cabW d0 d1 d2 k o := by
  unfold cabsL
  rw [List.mem_append, List.mem_append, cabK_mem h hp, cabK_mem h hp, cabK_mem h hp]
  constructor
  · rintro ((h | h) | h)
    · exact ⟨0, h⟩
    · exact ⟨1, h⟩
    · exact ⟨2, h⟩
  · rintro ⟨k, h⟩
    rcases fin3 k with rfl | rfl | rfl
    · exact .inl (.inl h)
    · exact .inl (.inr h)
    · exact .inr h
theorem cab_node {d0 d1 d2 o : Int} (ho : 0 ≤ o ∧ o < d0 * d1 * d2) (k : Fin 3) : 0 ≤ cabW d0 d1 d2 k o ∧ cabW d0 d1 d2 k o < 3 * (d0 * d1 * d2) := by
  unfold cabW
  rcases fin3 k with rfl | rfl | rfl <;> simp only [axI] <;> omega
theorem cabs_in {d0 d1 d2 : Int} {b : Bx} {t0 t1 t2 : Bool} (h : mayD d0 d1 d2) (hp : mayP d0 d1 d2 b t0 t1 t2) (j : Nat) :
    inL (cabsL d0 d1 d2 b t0 t1 t2) j = (decide (j < (3 * (d0 * d1 * d2)).toNat) && cabB d0 d1 d2 b t0 t1 t2 (j : Int)) := by
  unfold inL
  rw [Bool.eq_iff_iff, List.contains_iff_mem, cabsL_mem h hp, Bool.and_eq_true, decide_eq_true_eq]
  constructor
  · rintro ⟨k, o, ho, ht, e⟩
    have hb := cab_node ho k
    rw [e, cabB_at ho k]
    exact ⟨by omega, ht⟩
  · rintro ⟨hj, hc⟩
    obtain ⟨k, o, ho, e⟩ := cab_of h (link := (j : Int)) (by omega)
    rw [e, cabB_at ho k] at hc
    exact ⟨k, o, ho, hc, e⟩
theorem cabs_ok {d0 d1 d2 : Int} {b : Bx} {t0 t1 t2 : Bool} (h : mayD d0 d1 d2) (hp : mayP d0 d1 d2 b t0 t1 t2) : ofOk (3 * (d0 * d1 * d2)) (cabsL d0 d1 d2 b t0 t1 t2) = true := by
  have := N_bd h
  refine ofOk_all (by omega) (by omega) fun x hx => ?_
  obtain ⟨k, o, ho, _, rfl⟩ := (cabsL_mem h hp).1 hx
  exact cab_node ho k
theorem cabs_of {d0 d1 d2 : Int} {b : Bx} {t0 t1 t2 : Bool} {ws : List Nat} (h : mayD d0 d1 d2) (hp : mayP d0 d1 d2 b t0 t1 t2) (ho : OfIs (3 * (d0 * d1 * d2)) (cabsL d0 d1 d2 b t0 t1 t2) ws) : ws = cabsW d0 d1 d2 b t0 t1 t2 :=
  setOf_of ho (cabs_ok h hp) (cabs_in h hp)

theorem cabK_len {d0 d1 d2 : Int} {b : Bx} {t0 t1 t2 : Bool} (h : mayD d0 d1 d2) (hp : mayP d0 d1 d2 b t0 t1 t2) (k : Fin 3) : (cabK d0 d1 d2 b t0 t1 t2 k).length ≤ 4096 := by
  have hz := runS_bd (r := dimAt d0 d1 d2 k) (s := sAt b k) (tK t0 t1 t2 k) (mayB_at hp.1 k).1
  have hd := dimAt_ok h k
  unfold okD at hd
  unfold cabK
  rw [most_run hp k]
  rw [flatP_len (c := if 1 < dimAt d0 d1 d2 k then (runS (dimAt d0 d1 d2 k) (sAt b k) (tK t0 t1 t2 k)).toNat else 0) (fun m hm => cables_len h (nodesP_mem.1 hm).1 k (by omega))]
  have hc : (if 1 < dimAt d0 d1 d2 k then (runS (dimAt d0 d1 d2 k) (sAt b k) (tK t0 t1 t2 k)).toNat else 0) ≤ 16 := by split <;> omega
  have hl : (nodesB d0 d1 d2 (upB b 1 k)).length ≤ 256 := by
    have hf := first_may h hp.1 k
    have e := nodes_count h (b := upB b 1 k) (fun j => ⟨(mayB_at hf j).2, by have := (mayB_at hf j).1; omega⟩)
    obtain ⟨⟨_, u0⟩, ⟨_, u1⟩, _, u2⟩ := h
    obtain ⟨⟨h0, _⟩, ⟨h1, _⟩, h2, _⟩ := hp.1
    have m1 : b.b * b.c ≤ 16 * 16 := (mul_bd (by omega) (by omega) (by omega) (by omega)).2
    have m2 : b.a * b.c ≤ 16 * 16 := (mul_bd (by omega) (by omega) (by omega) (by omega)).2
    have m3 : b.a * b.b ≤ 16 * 16 := (mul_bd (by omega) (by omega) (by omega) (by omega)).2
    rcases fin3 k with rfl | rfl | rfl <;> simp only [upB, Int.one_mul, Int.mul_one] at e ⊢ <;> omega
  exact Nat.le_trans (Nat.mul_le_mul hl hc) (by decide)
theorem cabsL_len {d0 d1 d2 : Int} {b : Bx} {t0 t1 t2 : Bool} (h : mayD d0 d1 d2) (hp : mayP d0 d1 d2 b t0 t1 t2) : (cabsL d0 d1 d2 b t0 t1 t2).length ≤ 12288 := by
  have h0 := cabK_len h hp 0
  have h1 := cabK_len h hp 1
  have h2 := cabK_len h hp 2
  unfold cabsL
  rw [List.length_append, List.length_append]
  omega

/-- The midplanes at the ends of a cable. -/
def endP (d0 d1 d2 n : Int) : List Int :=
  let N := d0 * d1 * d2
  if n < N then [n, onD d0 d1 d2 n 0 1] else if n < 2 * N then [n - N, onD d0 d1 d2 (n - N) 1 1] else [n - 2 * N, onD d0 d1 d2 (n - 2 * N) 2 1]
theorem endP_at {d0 d1 d2 o : Int} (ho : 0 ≤ o ∧ o < d0 * d1 * d2) (k : Fin 3) : endP d0 d1 d2 (cabW d0 d1 d2 k o) = [o, onD d0 d1 d2 o k 1] := by
  rcases fin3 k with rfl | rfl | rfl
  · have e : cabW d0 d1 d2 0 o = o := by unfold cabW; simp only [axI]; omega
    rw [e]
    unfold endP
    rw [if_pos ho.2]
  · have e : cabW d0 d1 d2 1 o = d0 * d1 * d2 + o := by unfold cabW; simp only [axI]; omega
    rw [e]
    unfold endP
    rw [if_neg (by omega), if_pos (by omega), show d0 * d1 * d2 + o - d0 * d1 * d2 = o by omega]
  · have e : cabW d0 d1 d2 2 o = 2 * (d0 * d1 * d2) + o := by unfold cabW; simp only [axI]
    rw [e]
    unfold endP
    rw [if_neg (by omega), if_neg (by omega), show 2 * (d0 * d1 * d2) + o - 2 * (d0 * d1 * d2) = o by omega]
def endsL (d0 d1 d2 : Int) (l : List Int) : List Int := l.flatMap (endP d0 d1 d2)
theorem endP_len (d0 d1 d2 n : Int) : (endP d0 d1 d2 n).length = 2 := by
  unfold endP
  dsimp only
  split
  · rfl
  · split <;> rfl
theorem endsL_len (d0 d1 d2 : Int) (l : List Int) : (endsL d0 d1 d2 l).length = l.length * 2 := flatP_len (fun a _ => endP_len d0 d1 d2 a)
theorem endsL_app (d0 d1 d2 : Int) (l : List Int) (n : Int) : endsL d0 d1 d2 (l ++ [n]) = endsL d0 d1 d2 l ++ endP d0 d1 d2 n := by simp [endsL]

/-- A midplane at an end of a cable that a place takes. -/
def endK (d0 d1 d2 : Int) (b : Bx) (t0 t1 t2 : Bool) (k : Fin 3) (m : Int) : Bool := decide (1 < dimAt d0 d1 d2 k) && (takes d0 d1 d2 b t0 t1 t2 k m || takes d0 d1 d2 b t0 t1 t2 k (onD d0 d1 d2 m k (-1)))
def endB (d0 d1 d2 : Int) (b : Bx) (t0 t1 t2 : Bool) (m : Int) : Bool := endK d0 d1 d2 b t0 t1 t2 0 m || endK d0 d1 d2 b t0 t1 t2 1 m || endK d0 d1 d2 b t0 t1 t2 2 m
theorem endB_iff {d0 d1 d2 m : Int} {b : Bx} {t0 t1 t2 : Bool} : endB d0 d1 d2 b t0 t1 t2 m = true ↔ ∃ k, 1 < dimAt d0 d1 d2 k ∧ (takes d0 d1 d2 b t0 t1 t2 k m = true ∨ takes d0 d1 d2 b t0 t1 t2 k (onD d0 d1 d2 m k (-1)) = true) := by
  have e : ∀ k, endK d0 d1 d2 b t0 t1 t2 k m = true ↔ 1 < dimAt d0 d1 d2 k ∧ (takes d0 d1 d2 b t0 t1 t2 k m = true ∨ takes d0 d1 d2 b t0 t1 t2 k (onD d0 d1 d2 m k (-1)) = true) := fun k => by
    unfold endK
    rw [Bool.and_eq_true, Bool.or_eq_true, decide_eq_true_eq]
  unfold endB
  rw [Bool.or_eq_true, Bool.or_eq_true, e, e, e]
  constructor
  · rintro ((h | h) | h)
    · exact ⟨0, h⟩
    · exact ⟨1, h⟩
    · exact ⟨2, h⟩
  · rintro ⟨k, h⟩
    rcases fin3 k with rfl | rfl | rfl
    · exact .inl (.inl h)
    · exact .inl (.inr h)
    · exact .inr h
theorem endsL_mem {d0 d1 d2 : Int} {b : Bx} {t0 t1 t2 : Bool} (h : mayD d0 d1 d2) (hp : mayP d0 d1 d2 b t0 t1 t2) {x : Int} :
    x ∈ endsL d0 d1 d2 (cabsL d0 d1 d2 b t0 t1 t2) ↔ (0 ≤ x ∧ x < d0 * d1 * d2) ∧ endB d0 d1 d2 b t0 t1 t2 x = true := by
  unfold endsL
  rw [List.mem_flatMap, endB_iff]
  constructor
  · rintro ⟨n, hn, hx⟩
    obtain ⟨k, o, ho, ht, rfl⟩ := (cabsL_mem h hp).1 hn
    have hw := takes_wired h hp ho ht
    rw [endP_at ho k, List.mem_cons, List.mem_singleton] at hx
    rcases hx with rfl | rfl
    · exact ⟨ho, k, hw, .inl ht⟩
    · refine ⟨on_node h ho k 1, k, hw, .inr ?_⟩
      rw [on_on h ho, show (1 : Int) + -1 = 0 by omega, on_round h ho k 0 (.inl rfl)]
      exact ht
  · rintro ⟨hx, k, hw, ht | ht⟩
    · refine ⟨cabW d0 d1 d2 k x, (cabsL_mem h hp).2 ⟨k, x, hx, ht, rfl⟩, ?_⟩
      rw [endP_at hx k]
      simp
    · have ho := on_node h hx k (-1)
      refine ⟨cabW d0 d1 d2 k (onD d0 d1 d2 x k (-1)), (cabsL_mem h hp).2 ⟨k, _, ho, ht, rfl⟩, ?_⟩
      rw [endP_at ho k, on_back h hx k]
      simp
def endsW (d0 d1 d2 : Int) (b : Bx) (t0 t1 t2 : Bool) : List Nat := setOf (d0 * d1 * d2) (fun j : Nat => endB d0 d1 d2 b t0 t1 t2 (j : Int))
theorem ends_ok {d0 d1 d2 : Int} {b : Bx} {t0 t1 t2 : Bool} (h : mayD d0 d1 d2) (hp : mayP d0 d1 d2 b t0 t1 t2) : ofOk (d0 * d1 * d2) (endsL d0 d1 d2 (cabsL d0 d1 d2 b t0 t1 t2)) = true := by
  have := N_bd h
  exact ofOk_all (by omega) (by omega) fun x hx => ((endsL_mem h hp).1 hx).1
theorem ends_of {d0 d1 d2 : Int} {b : Bx} {t0 t1 t2 : Bool} {ws : List Nat} (h : mayD d0 d1 d2) (hp : mayP d0 d1 d2 b t0 t1 t2) (ho : OfIs (d0 * d1 * d2) (endsL d0 d1 d2 (cabsL d0 d1 d2 b t0 t1 t2)) ws) : ws = endsW d0 d1 d2 b t0 t1 t2 := by
  refine setOf_of ho (ends_ok h hp) fun j => ?_
  unfold inL
  rw [Bool.eq_iff_iff, List.contains_iff_mem, endsL_mem h hp, Bool.and_eq_true, decide_eq_true_eq]
  exact ⟨fun ⟨a, b⟩ => ⟨by omega, b⟩, fun ⟨a, b⟩ => ⟨by omega, b⟩⟩

/-- What a place passes, as a set and as a list. -/
def pasB (d0 d1 d2 : Int) (b : Bx) (t0 t1 t2 : Bool) (m : Int) : Bool := endB d0 d1 d2 b t0 t1 t2 m && !hasB d0 d1 d2 b m
def passTo (d0 d1 d2 : Int) (b : Bx) (t0 t1 t2 : Bool) (k : Nat) : List Int := ofN ((List.range k).filter fun j : Nat => pasB d0 d1 d2 b t0 t1 t2 (j : Int))
def passL (d0 d1 d2 : Int) (b : Bx) (t0 t1 t2 : Bool) : List Int := passTo d0 d1 d2 b t0 t1 t2 (d0 * d1 * d2).toNat
def passW (d0 d1 d2 : Int) (b : Bx) (t0 t1 t2 : Bool) : List Nat := setOf (d0 * d1 * d2) (fun j : Nat => pasB d0 d1 d2 b t0 t1 t2 (j : Int))
theorem pass_less {d0 d1 d2 : Int} (h : mayD d0 d1 d2) (b : Bx) (t0 t1 t2 : Bool) : joinW notW (d0 * d1 * d2) (endsW d0 d1 d2 b t0 t1 t2) (midW d0 d1 d2 b) = passW d0 d1 d2 b t0 t1 t2 := by
  have := N_bd h
  exact setOf_less (by omega) (by omega) _ _
theorem pass_list {d0 d1 d2 : Int} (h : mayD d0 d1 d2) (b : Bx) (t0 t1 t2 : Bool) : listR (d0 * d1 * d2) (passW d0 d1 d2 b t0 t1 t2) = passL d0 d1 d2 b t0 t1 t2 := by
  have := N_bd h
  exact setOf_list (by omega) (by omega) _
theorem pasB_iff {d0 d1 d2 m : Int} {b : Bx} {t0 t1 t2 : Bool} : pasB d0 d1 d2 b t0 t1 t2 m = true ↔ passB d0 d1 d2 b t0 t1 t2 m := by
  unfold pasB passB
  rw [Bool.and_eq_true, endB_iff]
  constructor
  · rintro ⟨h1, h2⟩; exact ⟨by simpa using h2, h1⟩
  · rintro ⟨h1, h2⟩; exact ⟨h2, by simpa using h1⟩

end Go.Proofs.YtbedhpooeabehaaDoor

/-
  A place, as the program holds it: nine cells.
-/
namespace Go.Proofs.YtbedhpooeabehaaDoor
open Go Go.RowKit Go.Shelf

abbrev P9 (b : Bx) (p q r : Bool) : Value := .agg #[.int .i64 b.x, .int .i64 b.y, .int .i64 b.z, .int .i64 b.a, .int .i64 b.b, .int .i64 b.c, .bool p, .bool q, .bool r]
/-- The answer to whether a place may be. -/
def mayPB (d0 d1 d2 : Int) (b : Bx) (t0 t1 t2 : Bool) : Bool := mayBB d0 d1 d2 b && sameBx b (canonB d0 d1 d2 b) && !torB b t0 t1 t2
def errP (d0 d1 d2 : Int) (b : Bx) (t0 t1 t2 : Bool) : Int := if okDB d0 d1 d2 then codeOf (mayPB d0 d1 d2 b t0 t1 t2) else 8
theorem mayPB_iff (d0 d1 d2 : Int) (b : Bx) (t0 t1 t2 : Bool) : mayPB d0 d1 d2 b t0 t1 t2 = true ↔ mayP d0 d1 d2 b t0 t1 t2 := by
  unfold mayPB mayP
  rw [Bool.and_eq_true, Bool.and_eq_true, mayBB_iff, sameBx_iff, Bool.not_eq_true', torB_iff, and_assoc]
  exact ⟨fun ⟨a, b, c⟩ => ⟨a, b.symm, c⟩, fun ⟨a, b, c⟩ => ⟨a, b.symm, c⟩⟩
theorem errP_cases (d0 d1 d2 : Int) (b : Bx) (t0 t1 t2 : Bool) : (mayD d0 d1 d2 ∧ mayP d0 d1 d2 b t0 t1 t2 ∧ errP d0 d1 d2 b t0 t1 t2 = 0) ∨ ((errP d0 d1 d2 b t0 t1 t2 = 2 ∨ errP d0 d1 d2 b t0 t1 t2 = 8) ∧ ¬ (mayD d0 d1 d2 ∧ mayP d0 d1 d2 b t0 t1 t2)) := by
  have h1 := okDB_iff d0 d1 d2
  have h2 := mayPB_iff d0 d1 d2 b t0 t1 t2
  unfold errP
  cases e1 : okDB d0 d1 d2
  · rw [e1] at h1
    exact .inr ⟨by simp, fun h => by simp [h.1] at h1⟩
  · cases e2 : mayPB d0 d1 d2 b t0 t1 t2
    · rw [e2] at h2
      exact .inr ⟨by simp [codeOf], fun h => by simp [h.2] at h2⟩
    · exact .inl ⟨h1.1 e1, h2.1 e2, by simp [codeOf]⟩

end Go.Proofs.YtbedhpooeabehaaDoor

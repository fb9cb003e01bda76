/-
  box.Nodes: a box's midplanes, rising, in new memory.
-/
import Derived.Test.YtfbegeopiakccaaGreatDoorPart6
import Derived.Test.YtfbegeopiakccaaGreatDoorPart5
import Derived.Test.YtfbegeopiakccaaGreatDoorPart10
import Derived.Test.YtfbegeopiakccaaGreatDoorPart3
import Derived.Laws.AppendOwn
import Derived.Laws.AppendOwnNone
namespace Go.Proofs.YtfbegeopiakccaaGreatDoor
open Go.RowKit Go.Shelf

attribute [local go_sem] Oper.semAt_some ext_const

set_option maxHeartbeats 1000000 in
theorem bnodes_err {d0 d1 d2 : Int} {b : Bx} (w : World) (he : (errB d0 d1 d2 b != 0) = true) :
    Calls Tryz.prog 122 #[A3 d0 d1 d2, B6 b] w fun e W' => e = .returned (.tuple #[.slice none 0 0, I (errB d0 d1 d2 b)]) ∧ Below w.heap.size w W' := by
  go_enter Tryz.func122, Tryz.ntmps122
  go_wp2_with fail
  obtain ⟨W, hW, hs, hB0, b0, b1, b2⟩ := three_start w #[I d0, I d1, I d2] (C6 b) (C6 b) 27 38 38
  rw [hW]
  clear hW
  refine (chk1 _ _ b2).mono ?_
  rintro e w1 ⟨rfl, hB⟩
  go_wp2
  go_ret2
  exact ⟨rfl, then_below hB0 hB⟩

/-- What each operation of the statement that makes the three lists keeps. -/
def wordN (d0 d1 d2 : Int) (b : Bx) (base : Nat) (X Y Z : List Int) (i : Nat) (v : Value) (w : World) : Prop :=
  match i with
  | 0 => v = A3 d0 d1 d2
  | 1 => v = B6 b
  | 2 => v = A3 d0 b.x b.a
  | 3 => Lst w base v X
  | 4 => v = A3 d0 d1 d2
  | 5 => v = B6 b
  | 6 => v = A3 d1 b.y b.b
  | 7 => Lst w base v Y
  | 8 => v = A3 d0 d1 d2
  | 9 => v = B6 b
  | 10 => v = A3 d2 b.z b.c
  | 11 => Lst w base v Z
  | 12 => Lst w base v X
  | 13 => Lst w base v Y
  | 14 => Lst w base v Z
  | _ => False
theorem wordN_later {d0 d1 d2 : Int} {b : Bx} {base : Nat} {X Y Z : List Int} (i : Nat) (v : Value) (w w' : World) (h : wordN d0 d1 d2 b base X Y Z i v w) (hB : Below w.heap.size w w') : wordN d0 d1 d2 b base X Y Z i v w' := by
  match i, h with
  | 0, h => exact h
  | 1, h => exact h
  | 2, h => exact h
  | 3, h => exact h.later hB
  | 4, h => exact h
  | 5, h => exact h
  | 6, h => exact h
  | 7, h => exact h.later hB
  | 8, h => exact h
  | 9, h => exact h
  | 10, h => exact h
  | 11, h => exact h.later hB
  | 12, h => exact h.later hB
  | 13, h => exact h.later hB
  | 14, h => exact h.later hB
  | n + 15, h => exact h.elim

set_option maxRecDepth 100000 in
set_option maxHeartbeats 4000000 in
theorem bnodes_ok {d0 d1 d2 : Int} {b : Bx} (w : World) (hm : mayD d0 d1 d2) (hb : mayB d0 d1 d2 b) :
    Calls Tryz.prog 122 #[A3 d0 d1 d2, B6 b] w fun e W' => ∃ v, e = .returned (.tuple #[v, I 0]) ∧ Lst W' w.heap.size v (nodesB d0 d1 d2 b) ∧ Below w.heap.size w W' := by
  have H0 : Hid (errB d0 d1 d2 b = 0) := errB_ok hm hb
  have hmx : Tryz.prog.follows .mixedOrders = true := by kernel_rfl
  have HM : Hid (mayD d0 d1 d2) := hm
  have HB : Hid (mayB d0 d1 d2 b) := hb
  have HT : Hid (eqO d0 d1 (coordsS d0 b.x b.a) (coordsS d1 b.y b.b) (coordsS d2 b.z b.c) (nodesB d0 d1 d2 b) [] 0) := nodesB_flat hm
  have hlen : (nodesB d0 d1 d2 b).length ≤ 4096 := nodesB_len hm b
  have hm' := hm
  obtain ⟨⟨g0, g1⟩, ⟨g2, g3⟩, g4, g5⟩ := hm'
  have lX : (coordsS d0 b.x b.a).length ≤ 16 := coordsS_len g1
  have lY : (coordsS d1 b.y b.b).length ≤ 16 := coordsS_len g3
  have lZ : (coordsS d2 b.z b.c).length ≤ 16 := coordsS_len g5
  have HX : Hid (∀ k : Nat, k < (coordsS d0 b.x b.a).length → 0 ≤ (coordsS d0 b.x b.a).getD k 0 ∧ (coordsS d0 b.x b.a).getD k 0 < d0) := fun k hk => coordsS_get (by omega) hk
  have HY : Hid (∀ k : Nat, k < (coordsS d1 b.y b.b).length → 0 ≤ (coordsS d1 b.y b.b).getD k 0 ∧ (coordsS d1 b.y b.b).getD k 0 < d1) := fun k hk => coordsS_get (by omega) hk
  have HZ : Hid (∀ k : Nat, k < (coordsS d2 b.z b.c).length → 0 ≤ (coordsS d2 b.z b.c).getD k 0 ∧ (coordsS d2 b.z b.c).getD k 0 < d2) := fun k hk => coordsS_get (by omega) hk
  have KX : Hid (∀ w : World, Calls Tryz.prog 138 #[A3 d0 b.x b.a] w fun e W' => ∃ v, e = .returned v ∧ Lst W' w.heap.size v (coordsS d0 b.x b.a) ∧ Below w.heap.size w W') := fun w => coords_calls w HM.out.1.2 HB.out.1
  have KY : Hid (∀ w : World, Calls Tryz.prog 138 #[A3 d1 b.y b.b] w fun e W' => ∃ v, e = .returned v ∧ Lst W' w.heap.size v (coordsS d1 b.y b.b) ∧ Below w.heap.size w W') := fun w => coords_calls w HM.out.2.1.2 HB.out.2.1
  have KZ : Hid (∀ w : World, Calls Tryz.prog 138 #[A3 d2 b.z b.c] w fun e W' => ∃ v, e = .returned v ∧ Lst W' w.heap.size v (coordsS d2 b.z b.c) ∧ Below w.heap.size w W') := fun w => coords_calls w HM.out.2.2.2 HB.out.2.2
  obtain ⟨z0, z1, z2⟩ := sizes_bd hm hb
  have KM : Hid (∀ w : World, Calls Tryz.prog 139 #[B6 b] w fun e W' => e = .returned (I (manyB b)) ∧ Below w.heap.size w W') := fun w => bmany_calls w z0 z1 z2
  have hmb : 0 ≤ manyB b ∧ manyB b ≤ 16 * 16 * 16 := by
    have p1 : 0 ≤ b.a * b.b ∧ b.a * b.b ≤ 16 * 16 := mul_bd (by omega) z0.2 (by omega) z1.2
    exact mul_bd p1.1 p1.2 (by omega) z2.2
  obtain ⟨hmb0, hmb1⟩ := hmb
  generalize manyB b = M at KM hmb0 hmb1
  clear z0 z1 z2
  generalize coordsS d0 b.x b.a = X at HT lX HX KX
  generalize coordsS d1 b.y b.b = Y at HT lY HY KY
  generalize coordsS d2 b.z b.c = Z at HT lZ HZ KZ
  generalize nodesB d0 d1 d2 b = T at HT hlen ⊢
  go_enter Tryz.func122, Tryz.ntmps122
  go_wp2_with fail
  obtain ⟨W, hW, hs, hB0, b0, b1, b2⟩ := three_start w #[I d0, I d1, I d2] (C6 b) (C6 b) 27 38 38
  rw [hW]
  clear hW
  refine (chk1 _ _ b2).mono ?_
  rintro e w1 ⟨rfl, hT⟩
  rw [H0.out]
  have q0 := b0.later hT
  have q1 := b1.later hT
  have hB1 := then_below hB0 hT
  clear b0 b1 b2 hT hB0
  go_wp2_with fail
  refine wp_region_loud (w0 := w1) (wordN d0 d1 d2 b w1.heap.size X Y Z) hmx (by kernel_rfl) wordN_later ?_ ?_
  · intro i o hi a w' hT hL hpre
    have t2 : a.tmps.getD 2 undef = .pointer (some ⟨w.heap.size, 0, none⟩) := by
      rw [Array.getD_eq_getD_getElem?, hL.out 2 (of_decide_eq_true (by kernel_rfl))]; rfl
    have t3 : a.tmps.getD 3 undef = .pointer (some ⟨w.heap.size + 1, 0, none⟩) := by
      rw [Array.getD_eq_getD_getElem?, hL.out 3 (of_decide_eq_true (by kernel_rfl))]; rfl
    obtain ⟨c0, c1, c2, hz⟩ := q0.three hT
    obtain ⟨⟨k0, k1, k2⟩, ⟨k3, k4, k5⟩, hz1⟩ := q1.six hT
    clear hL
    match i, hi with
    | 0, hi =>
      obtain rfl := Option.some.inj hi
      refine .inl ⟨A3 d0 d1 d2, ?_, rfl⟩
      simp [execOp, go_sem, Act.eval, t2, c0, c1, c2]
    | 1, hi =>
      obtain rfl := Option.some.inj hi
      refine .inl ⟨B6 b, ?_, rfl⟩
      simp [execOp, go_sem, Act.eval, t3, k0, k1, k2, k3, k4, k5]
    | 2, hi =>
      obtain rfl := Option.some.inj hi
      have p0 : a.tmps.getD 26 undef = A3 d0 d1 d2 := hpre ⟨0, .data⟩ (by simp) rfl
      have p1 : a.tmps.getD 27 undef = B6 b := hpre ⟨1, .data⟩ (by simp) rfl
      refine .inr ⟨119, #[A3 d0 d1 d2, B6 b, I 0], ?_, ?_⟩
      · simp [go_sem, Act.eval, p0, p1]
      · refine (side_calls d0 d1 d2 b 0 w').mono ?_
        rintro e w'' ⟨rfl, hB⟩
        exact ⟨_, rfl, hB, rfl⟩
    | 3, hi =>
      obtain rfl := Option.some.inj hi
      have p0 : a.tmps.getD 28 undef = A3 d0 b.x b.a := hpre ⟨2, .data⟩ (by simp) rfl
      refine .inr ⟨138, #[A3 d0 b.x b.a], ?_, ?_⟩
      · simp [go_sem, Act.eval, p0]
      · refine (KX.out w').mono ?_
        rintro e w'' ⟨v, rfl, hl, hB⟩
        exact ⟨_, rfl, hB, hl.weak hT.size⟩
    | 4, hi =>
      obtain rfl := Option.some.inj hi
      refine .inl ⟨A3 d0 d1 d2, ?_, rfl⟩
      simp [execOp, go_sem, Act.eval, t2, c0, c1, c2]
    | 5, hi =>
      obtain rfl := Option.some.inj hi
      refine .inl ⟨B6 b, ?_, rfl⟩
      simp [execOp, go_sem, Act.eval, t3, k0, k1, k2, k3, k4, k5]
    | 6, hi =>
      obtain rfl := Option.some.inj hi
      have p0 : a.tmps.getD 30 undef = A3 d0 d1 d2 := hpre ⟨4, .data⟩ (by simp) rfl
      have p1 : a.tmps.getD 31 undef = B6 b := hpre ⟨5, .data⟩ (by simp) rfl
      refine .inr ⟨119, #[A3 d0 d1 d2, B6 b, I 1], ?_, ?_⟩
      · simp [go_sem, Act.eval, p0, p1]
      · refine (side_calls d0 d1 d2 b 1 w').mono ?_
        rintro e w'' ⟨rfl, hB⟩
        exact ⟨_, rfl, hB, rfl⟩
    | 7, hi =>
      obtain rfl := Option.some.inj hi
      have p0 : a.tmps.getD 32 undef = A3 d1 b.y b.b := hpre ⟨6, .data⟩ (by simp) rfl
      refine .inr ⟨138, #[A3 d1 b.y b.b], ?_, ?_⟩
      · simp [go_sem, Act.eval, p0]
      · refine (KY.out w').mono ?_
        rintro e w'' ⟨v, rfl, hl, hB⟩
        exact ⟨_, rfl, hB, hl.weak hT.size⟩
    | 8, hi =>
      obtain rfl := Option.some.inj hi
      refine .inl ⟨A3 d0 d1 d2, ?_, rfl⟩
      simp [execOp, go_sem, Act.eval, t2, c0, c1, c2]
    | 9, hi =>
      obtain rfl := Option.some.inj hi
      refine .inl ⟨B6 b, ?_, rfl⟩
      simp [execOp, go_sem, Act.eval, t3, k0, k1, k2, k3, k4, k5]
    | 10, hi =>
      obtain rfl := Option.some.inj hi
      have p0 : a.tmps.getD 34 undef = A3 d0 d1 d2 := hpre ⟨8, .data⟩ (by simp) rfl
      have p1 : a.tmps.getD 35 undef = B6 b := hpre ⟨9, .data⟩ (by simp) rfl
      refine .inr ⟨119, #[A3 d0 d1 d2, B6 b, I 2], ?_, ?_⟩
      · simp [go_sem, Act.eval, p0, p1]
      · refine (side_calls d0 d1 d2 b 2 w').mono ?_
        rintro e w'' ⟨rfl, hB⟩
        exact ⟨_, rfl, hB, rfl⟩
    | 11, hi =>
      obtain rfl := Option.some.inj hi
      have p0 : a.tmps.getD 36 undef = A3 d2 b.z b.c := hpre ⟨10, .data⟩ (by simp) rfl
      refine .inr ⟨138, #[A3 d2 b.z b.c], ?_, ?_⟩
      · simp [go_sem, Act.eval, p0]
      · refine (KZ.out w').mono ?_
        rintro e w'' ⟨v, rfl, hl, hB⟩
        exact ⟨_, rfl, hB, hl.weak hT.size⟩
    | 12, hi =>
      obtain rfl := Option.some.inj hi
      have p0 : Lst w' w1.heap.size (a.tmps.getD 29 undef) _ := hpre ⟨3, .data⟩ (by simp) rfl
      refine .inl ⟨a.tmps.getD 29 undef, ?_, p0⟩
      simp [execOp, go_sem, Act.eval]
    | 13, hi =>
      obtain rfl := Option.some.inj hi
      have p0 : Lst w' w1.heap.size (a.tmps.getD 33 undef) _ := hpre ⟨7, .data⟩ (by simp) rfl
      refine .inl ⟨a.tmps.getD 33 undef, ?_, p0⟩
      simp [execOp, go_sem, Act.eval]
    | 14, hi =>
      obtain rfl := Option.some.inj hi
      have p0 : Lst w' w1.heap.size (a.tmps.getD 37 undef) _ := hpre ⟨11, .data⟩ (by simp) rfl
      refine .inl ⟨a.tmps.getD 37 undef, ?_, p0⟩
      simp [execOp, go_sem, Act.eval]
    | n + 15, hi => simp at hi
  · intro v w' hT hall
    have hX : Lst w' w1.heap.size (v 12) X := hall 12 (of_decide_eq_true (by kernel_rfl))
    have hY : Lst w' w1.heap.size (v 13) Y := hall 13 (of_decide_eq_true (by kernel_rfl))
    have hZ : Lst w' w1.heap.size (v 14) Z := hall 14 (of_decide_eq_true (by kernel_rfl))
    clear hall
    obtain ⟨aX, cX, eX, vX⟩ := hX.view
    obtain ⟨aY, cY, eY, vY⟩ := hY.view
    obtain ⟨aZ, cZ, eZ, vZ⟩ := hZ.view
    have VX : Hid (∀ k : Nat, k < X.length → ∃ g cur, aX = some ⟨g, 0, none⟩ ∧ Blk w' g 3 cur ∧ cur[k]? = some (I (X.getD k 0))) := vX
    have VY : Hid (∀ k : Nat, k < Y.length → ∃ g cur, aY = some ⟨g, 0, none⟩ ∧ Blk w' g 3 cur ∧ cur[k]? = some (I (Y.getD k 0))) := vY
    have VZ : Hid (∀ k : Nat, k < Z.length → ∃ g cur, aZ = some ⟨g, 0, none⟩ ∧ Blk w' g 3 cur ∧ cur[k]? = some (I (Z.getD k 0))) := vZ
    clear hX hY hZ vX vY vZ KX KY KZ
    have q0 := q0.later hT
    have q1 := q1.later hT
    have hB1 := then_below hB1 hT
    clear hT
    simp only [List.length_cons, List.length_nil, Nat.zero_add, Nat.reduceAdd, List.range, List.range.loop, List.foldl_cons, List.foldl_nil, dstOf, List.getElem?_cons_zero, List.getElem?_cons_succ, Option.getD_some, Act.put, eX, eY, eZ]
    obtain ⟨⟨k0, k1, k2⟩, ⟨k3, k4, k5⟩, hz1⟩ := q1.six (Below.refl _ _)
    clear eX eY eZ
    generalize v 0 = v0
    generalize v 1 = v1
    generalize v 2 = v2
    generalize v 4 = v4
    generalize v 5 = v5
    generalize v 6 = v6
    generalize v 8 = v8
    generalize v 9 = v9
    generalize v 10 = v10
    generalize v 3 = v3
    generalize v 7 = v7
    generalize v 11 = v11
    clear v
    go_wp2_with fail
    refine (KM.out _).mono ?_
    rintro e w2 ⟨rfl, hT2⟩
    clear k0 k1 k2 k3 k4 k5 hz1
    go_wp2_with (at_make; refine wpList_mk (base := w'.heap.size) rfl _ _ rfl M rfl rfl hmb0 (by omega) hT2.size ?_; intro vL w3 hL3 hT3)
    have hT3 := hT2.trans hT3
    clear hT2
    go_loopw [10, 43] (fun v i wr => ∃ (I' : Nat) (L : List Int), I' ≤ Z.length ∧ i = .int .i64 I' ∧ Lst wr w'.heap.size v L ∧ eqO d0 d1 X Y Z T L I' ∧ Below w'.heap.size w' wr) (fun _ i _ => Z.length - (RowKit.intOf i).toNat)
    case atStart => exact ⟨0, [], by omega, rfl, hL3, HT.out, hT3⟩
    case round =>
      clear hL3 hT3
      obtain ⟨i, L, hi, rfl, hL, hE, hT⟩ := hrel
      by_cases hlt : (i : Int) < (Z.length : Int)
      · obtain ⟨g, cur, rfl, hg, hc⟩ := VZ.out i (by omega)
        have c0 := (hg.later hT).cell i
        rw [hc] at c0
        clear hg hc
        have EM := eqO_in (by omega) hE
        have RZ : Hid (0 ≤ Z.getD i 0 ∧ Z.getD i 0 < d2) := HZ.out i (by omega)
        clear hE
        obtain ⟨z, hz⟩ : ∃ z, z = Z.getD i 0 := ⟨_, rfl⟩
        rw [← hz] at c0 RZ
        have HZz : Hid (z = Z.getD i 0) := hz
        clear hz
        go_wp2
        go_loopw [10, 49] (fun v j wr => ∃ (J : Nat) (L : List Int), J ≤ Y.length ∧ j = .int .i64 J ∧ Lst wr w'.heap.size v L ∧ eqM d0 d1 X Y Z T L i J ∧ Below w'.heap.size w' wr) (fun _ j _ => Y.length - (RowKit.intOf j).toNat)
        case atStart => exact ⟨0, L, by omega, rfl, hL, EM, hT⟩
        case round =>
          clear hL hT EM c0
          obtain ⟨j, L, hj, rfl, hL, hE, hT⟩ := hrel
          by_cases hlt : (j : Int) < (Y.length : Int)
          · obtain ⟨g', cur', rfl, hg', hc'⟩ := VY.out j (by omega)
            have c0 := (hg'.later hT).cell j
            rw [hc'] at c0
            clear hg' hc'
            have EI := eqM_in (by omega) hE
            have RY : Hid (0 ≤ Y.getD j 0 ∧ Y.getD j 0 < d1) := HY.out j (by omega)
            clear hE
            obtain ⟨y, hy⟩ : ∃ y, y = Y.getD j 0 := ⟨_, rfl⟩
            rw [← hy] at c0 RY
            have HYy : Hid (y = Y.getD j 0) := hy
            clear hy
            go_wp2
            go_loopw [10, 55] (fun v k wr => ∃ (K : Nat) (L : List Int), K ≤ X.length ∧ k = .int .i64 K ∧ Lst wr w'.heap.size v L ∧ eqI d0 d1 X Y Z T L i j K ∧ Below w'.heap.size w' wr) (fun _ k _ => X.length - (RowKit.intOf k).toNat)
            case atStart => exact ⟨0, L, by omega, rfl, hL, EI, hT⟩
            case round =>
              clear hL hT EI c0
              obtain ⟨k, L, hk, rfl, hL, hE, hT⟩ := hrel
              by_cases hlt : (k : Int) < (X.length : Int)
              · obtain ⟨g'', cur'', rfl, hg'', hc''⟩ := VX.out k (by omega)
                have c0 := (hg''.later hT).cell k
                rw [hc''] at c0
                clear hg'' hc''
                obtain ⟨d0', d1', d2', hz⟩ := q0.three hT
                have RX : Hid (0 ≤ X.getD k 0 ∧ X.getD k 0 < d0) := HX.out k (by omega)
                have hll : L.length ≤ 100000 := by have := eqI_len hE; omega
                have EI := eqI_step (by omega) hE
                rw [← HYy.out, ← HZz.out] at EI
                clear hE
                generalize X.getD k 0 = x at c0 RX EI
                have KA : Hid (∀ w : World, Calls Tryz.prog 57 #[A3 d0 d1 d2, A3 x y z] w fun e W' => e = .returned (.tuple #[I (numD d0 d1 x y z), I 0]) ∧ Below w.heap.size w W') := fun w => at_yes w HM.out ⟨RX.out, RY.out, RZ.out⟩
                generalize numD d0 d1 x y z = N at KA EI
                go_wp2_with fail
                refine (KA.out _).mono ?_
                rintro e w4 ⟨rfl, hB4⟩
                have hL := hL.later hB4
                have hT := then_below hT hB4
                clear hB4 c0 d0' d1' d2' hz
                go_wp2_with (at_builtin; refine wpList_app rfl _ _ rfl rfl rfl hL hll hT.size ?_; intro v' w5 hL5 hT5)
                have hT := hT.trans hT5
                clear hT5 hL
                go_roundw
                case rel => exact ⟨k + 1, _, by omega, by go_num, hL5, EI, hT⟩
                case measure => simp [RowKit.intOf]; omega
              · have EO := eqI_out (by omega) hE
                clear hE
                go_wp2
                go_roundw
                case rel => exact ⟨j + 1, L, by omega, by go_num, hL, EO, hT⟩
                case measure => simp [RowKit.intOf]; omega
          · have EO := eqM_out (by omega) hE
            clear hE
            go_wp2
            go_roundw
            case rel => exact ⟨i + 1, L, by omega, by go_num, hL, EO, hT⟩
            case measure => simp [RowKit.intOf]; omega
      · have E := eqO_out (by omega) hE
        subst E
        have hL' := hL.weak hB1.size
        clear hL hE
        go_wp2
        go_ret2
        exact ⟨_, rfl, hL', then_below hB1 hT⟩

end Go.Proofs.YtfbegeopiakccaaGreatDoor

/-
  Lists of whole numbers: a list behind another one, and two numbers behind a list.
-/
namespace Go.Proofs.YtfbegeopiakccaaGreatDoor
open Go Go.RowKit Go.Shelf

/-- 'list = append(list, x, y)', the list a call's own. -/
theorem wpList_app2 {ops : Array Oper} {rest : List Oper} {o : Oper} {a : Act} {Q : Exit → Act → World → Prop} {W : World} {base : Nat} {v : Value} {xs : List Int} {y z : Int} (hgd : o.guard = none) (s x : Operand)
    (ho : o.op = .call { callee := .builtin .append, args := #[s, x], argTypes := #[168, 168] }) (hs : a.eval s = v) (hx : a.eval x = .slice (some ⟨W.heap.size, 0, none⟩) 2 2)
    (hown : Lst W base v xs) (hl : xs.length ≤ 100000) (hb : base ≤ W.heap.size)
    (h : ∀ v' w', Lst w' base v' (xs ++ [y, z]) → Below base W w' → wpList Tryz.prog ops Q rest (a.put o.dst v') w') : wpList Tryz.prog ops Q (o :: rest) a (W.alloc (.cells #[.int .i64 y, .int .i64 z] 3)) := by
  obtain ⟨i0, hi, hz0, hz1, hz2⟩ := info_parts info_int
  refine wpList_append_own (w := W.alloc (.cells #[.int .i64 y, .int .i64 z] 3)) hgd s x 168 ho base 3 i0 (.int .i64 0) 1 8 Tryz.underlying168 hi hz0 hz1 hz2 rfl (by decide) v xs.length _ hs (hown.alloc _) ⟨W.heap.size, 0, none⟩ 2 2 [.int .i64 y, .int .i64 z] hx rfl ?_ ?_ ?_ ?_ ?_ ?_
  · intro j u hj
    match j, hj with
    | 0, hj => simp at hj; subst hj; simp [Addr.add]
    | 1, hj => simp at hj; subst hj; simp [Addr.add]
  · intro u hu; simp at hu; rcases hu with rfl | rfl <;> rfl
  · unfold maxLen; omega
  · omega
  · simp; omega
  · intro v' w1 hown' hgrow _
    refine h v' w1 ?_ ?_
    · unfold Lst
      rw [List.map_append, List.length_append]
      exact hown'
    · exact ((Below.refl base W).alloc hb _).grown hgrow (by simp; omega) (fun k hk => (World.ownsRow.lt hown k hk).1)

/-- 'list = append(list, more...)', both lists a call's own. -/
theorem wpList_cat {ops : Array Oper} {rest : List Oper} {o : Oper} {a : Act} {Q : Exit → Act → World → Prop} {W : World} {base b2 : Nat} {v u : Value} {xs ys : List Int} (hgd : o.guard = none) (s x : Operand)
    (ho : o.op = .call { callee := .builtin .append, args := #[s, x], argTypes := #[168, 168] }) (hs : a.eval s = v) (hx : a.eval x = u)
    (hown : Lst W base v xs) (hu : Lst W b2 u ys) (hl : xs.length ≤ 100000) (hl2 : ys.length ≤ 100000) (hb : base ≤ W.heap.size)
    (h : ∀ v' w', Lst w' base v' (xs ++ ys) → Below base W w' → wpList Tryz.prog ops Q rest (a.put o.dst v') w') : wpList Tryz.prog ops Q (o :: rest) a W := by
  obtain ⟨i0, hi, hz0, hz1, hz2⟩ := info_parts info_int
  have hv := hu.view
  rcases hu.2 with ⟨rfl, hn⟩ | ⟨g, cap, cur, rfl, hg, hh, hc, hc2, hs2, ht⟩
  · have : ys = [] := List.length_eq_zero_iff.1 hn
    subst this
    rw [List.append_nil] at h
    exact wpList_append_own_none hgd s x 168 ho base 3 i0 1 Tryz.underlying168 hi v xs.length _ hs hown hx (h _ _ hown (Below.refl _ _))
  · refine wpList_append_own (w := W) hgd s x 168 ho base 3 i0 (.int .i64 0) 1 8 Tryz.underlying168 hi hz0 hz1 hz2 rfl (by decide) v xs.length _ hs hown ⟨g, 0, none⟩ ys.length cap (ys.map (Value.int .i64)) hx (by simp) ?_ ?_ ?_ ?_ ?_ ?_
    · intro j y hj
      have hjl : j < ys.length := by
        have := (List.getElem?_eq_some_iff.1 hj).1
        simpa using this
      obtain ⟨ao, c, e, hw⟩ := hv
      simp only [Value.slice.injEq] at e
      obtain ⟨rfl, -, -⟩ := e
      obtain ⟨g', cur', e, hB, hc'⟩ := hw j hjl
      simp only [Option.some.injEq, Addr.mk.injEq] at e
      obtain ⟨rfl, -, -⟩ := e
      have : (⟨g, 0, none⟩ : Addr).add j = ⟨g, j, none⟩ := by
        unfold Addr.add
        split
        · rename_i h0; subst h0; rfl
        · simp
      rw [this, hB.cell j, hc', ← hj]
      simp [hjl]
    · intro y hy
      obtain ⟨z, _, rfl⟩ := List.mem_map.1 hy
      rfl
    · unfold maxLen; omega
    · omega
    · omega
    · intro v' w1 hown' hgrow _
      refine h v' w1 ?_ ?_
      · unfold Lst
        rw [List.map_append, List.length_append]
        exact hown'
      · exact (Below.refl base W).grown hgrow hb (fun k hk => (World.ownsRow.lt hown k hk).1)

end Go.Proofs.YtfbegeopiakccaaGreatDoor

/-
  A list behind another one, while a third one stays: where the longer list lies.
-/
namespace Go.Proofs.YtfbegeopiakccaaGreatDoor
open Go Go.RowKit Go.Shelf

/-- What is appended to lies where it lay, or in new memory. -/
theorem cat_row {W : World} {base : Nat} {v : Value} {xs : List Int} {news : List Value} {ad : Addr} {c : Nat} (ty : TypeId) {i : TypeInfo} (hi : Tryz.prog.info? 3 = some i) (hz0 : i.zero = some (.int .i64 0)) (hz1 : i.size = 1) (hz2 : i.bytes = 8)
    (hown : Lst W base v xs) (hnews : ∀ j u, news[j]? = some u → W.cell? (ad.add j) = some u) (h1 : ∀ u ∈ news, u.oneCell' = true) (hlen : xs.length + news.length ≤ 1000000) {v' : Value} {w' : World}
    (hr : (Builtin.append_ #[168, 168] ty #[v, .slice (some ad) news.length c]).run Tryz.prog W = .ok v' w') : ∀ g, v'.ownBlock = some g → v.ownBlock = some g ∨ W.heap.size ≤ g := by
  intro g hg
  have ht := Tryz.underlying168
  have hl : news.length = news.length * i.size := by rw [hz1, Nat.mul_one]
  obtain ⟨hx, hown⟩ := hown
  rcases hown with ⟨rfl, hn⟩ | ⟨g0, cap, cur, rfl, hbg, hg0, hnc, hcm, hcs, htake⟩
  · by_cases hm : news.length = 0
    · have hn : news = [] := List.eq_nil_of_length_eq_zero hm
      subst hn
      have hr' : (Builtin.append_ #[168, 168] ty #[.slice none 0 0, .slice (some ad) 0 c]).run Tryz.prog W = .ok (.slice none 0 0) W := by
        simp [Builtin.append_, run_underlying ht, sizeOf, typeInfo, hi, Builtin.lenOf, Builtin.firstCells, loadCells, loadCellsFrom]
      rw [List.length_nil, hr'] at hr
      simp only [Result.ok.injEq] at hr
      rw [← hr.1] at hg
      simp [Value.ownBlock] at hg
    · have hr' := run_append_nil (P := Tryz.prog) W 168 ty 3 i _ ht hi hz0 ad news.length c news hl hnews (by omega) (by omega) (by rw [hz2]; omega)
      rw [hr'] at hr
      simp only [Result.ok.injEq] at hr
      rw [← hr.1] at hg
      simp [Value.ownBlock] at hg
      exact .inr (by omega)
  · by_cases hroom : xs.length + news.length ≤ cap
    · have hr' := run_append_room (P := Tryz.prog) W 168 ty 3 i ht hi g0 xs.length cap cur hg0 ad news.length c news hl hnews h1 hroom (by rw [hz1, hcs]; omega)
      rw [hr'] at hr
      simp only [Result.ok.injEq] at hr
      rw [← hr.1] at hg
      exact .inl hg
    · have holds : ∀ j u, (xs.map (Value.int .i64))[j]? = some u → W.cell? ((⟨g0, 0, none⟩ : Addr).add j) = some u :=
        World.ownsRow.cells (base := base) (v := .slice (some ⟨g0, 0, none⟩) xs.length cap) ⟨hx, .inr ⟨g0, cap, cur, rfl, hbg, hg0, hnc, hcm, hcs, htake⟩⟩ (g := g0) rfl
      have hr' := run_append_grow (P := Tryz.prog) W 168 ty 3 i _ ht hi hz0 ⟨g0, 0, none⟩ xs.length cap (xs.map (Value.int .i64)) (by rw [hz1]; exact hx) holds ad news.length c news hl hnews (by omega) (by omega) (growslice_fits (by omega) (by rw [hz2]; omega))
      rw [hr'] at hr
      simp only [Result.ok.injEq] at hr
      rw [← hr.1] at hg
      simp [Value.ownBlock] at hg
      exact .inr (by omega)

/-- A list that does not lie where another one does. -/
def Beside (u v : Value) : Prop := ∀ g, u.ownBlock = some g → v.ownBlock ≠ some g
theorem Beside.of_old {W : World} {b n : Nat} {u v : Value} {xs ys : List Int} (hu : Lst W n u xs) {w : World} (hv : Lst w b v ys) (hn : w.heap.size ≤ n) : Beside u v := fun g hg hv' => by
  have h1 := (World.ownsRow.lt hu g hg).1
  have h2 := (World.ownsRow.lt hv g hv').2
  omega

/-- 'list = append(list, more...)', both lists a call's own; a third one stays as it is. -/
theorem wpList_catK {ops : Array Oper} {rest : List Oper} {o : Oper} {a : Act} {Q : Exit → Act → World → Prop} {W : World} {base b2 b3 : Nat} {v u k : Value} {xs ys zs : List Int} (hgd : o.guard = none) (s x : Operand)
    (ho : o.op = .call { callee := .builtin .append, args := #[s, x], argTypes := #[168, 168] }) (hs : a.eval s = v) (hx : a.eval x = u)
    (hown : Lst W base v xs) (hu : Lst W b2 u ys) (hk : Lst W b3 k zs) (hkv : Beside k v) (hl : xs.length ≤ 100000) (hl2 : ys.length ≤ 100000) (hb : base ≤ W.heap.size)
    (h : ∀ v' w', Lst w' base v' (xs ++ ys) → Lst w' b3 k zs → Beside k v' → Below base W w' → wpList Tryz.prog ops Q rest (a.put o.dst v') w') : wpList Tryz.prog ops Q (o :: rest) a W := by
  obtain ⟨i0, hi, hz0, hz1, hz2⟩ := info_parts info_int
  have hv := hu.view
  rcases hu.2 with ⟨rfl, hn⟩ | ⟨g, cap, cur, rfl, hg, hh, hc, hc2, hs2, ht⟩
  · have : ys = [] := List.length_eq_zero_iff.1 hn
    subst this
    rw [List.append_nil] at h
    exact wpList_append_own_none hgd s x 168 ho base 3 i0 1 Tryz.underlying168 hi v xs.length _ hs hown hx (h _ _ hown hk hkv (Below.refl _ _))
  · have hnews : ∀ j y, (ys.map (Value.int .i64))[j]? = some y → W.cell? ((⟨g, 0, none⟩ : Addr).add j) = some y := by
      intro j y hj
      have hjl : j < ys.length := by
        have := (List.getElem?_eq_some_iff.1 hj).1
        simpa using this
      obtain ⟨ao, c, e, hw⟩ := hv
      simp only [Value.slice.injEq] at e
      obtain ⟨rfl, -, -⟩ := e
      obtain ⟨g', cur', e, hB, hc'⟩ := hw j hjl
      simp only [Option.some.injEq, Addr.mk.injEq] at e
      obtain ⟨rfl, -, -⟩ := e
      have : (⟨g, 0, none⟩ : Addr).add j = ⟨g, j, none⟩ := by
        unfold Addr.add
        split
        · rename_i h0; subst h0; rfl
        · simp
      rw [this, hB.cell j, hc', ← hj]
      simp [hjl]
    have hone : ∀ y ∈ ys.map (Value.int .i64), y.oneCell' = true := by
      intro y hy
      obtain ⟨z, _, rfl⟩ := List.mem_map.1 hy
      rfl
    have hlm : (ys.map (Value.int .i64)).length = ys.length := by simp
    obtain ⟨v', w', hr, h2, h3, h4⟩ := run_append_own (P := Tryz.prog) W base 168 o.type 3 i0 (.int .i64 0) 1 8 Tryz.underlying168 hi hz0 hz1 hz2 rfl (by decide) v xs.length (xs.map (Value.int .i64)) hown ⟨g, 0, none⟩ ys.length cap (ys.map (Value.int .i64)) (by simp) hnews hone (by unfold maxLen; omega) (by omega) hb
    have hrow := cat_row (W := W) (v := v) (news := ys.map (Value.int .i64)) (c := cap) (ad := ⟨g, 0, none⟩) o.type hi hz0 hz1 hz2 hown hnews hone (by rw [hlm]; omega) (v' := v') (w' := w') (by rw [hlm]; exact hr)
    refine wpList_plain hgd fun K hK => ?_
    unfold Oper.wp execOp
    simp only [ho, resolve, invoke, builtin, Sem.run_bind, Sem.run_pure, Result.andThen_ok, List.map_toArray, List.map_cons, List.map_nil, hs, hx, hr]
    refine hK _ _ (h v' w' ?_ ?_ ?_ ?_)
    · unfold Lst
      rw [List.map_append, List.length_append]
      exact h2
    · refine World.ownsRow.kept hk h3 ?_
      cases e : k.ownBlock
      · exact .inl rfl
      · exact .inr fun e' => hkv _ e e'.symm
    · intro g' hg' hv'
      rcases hrow g' hv' with e | e
      · exact hkv _ hg' e
      · have := (World.ownsRow.lt hk g' hg').2
        omega
    · exact (Below.refl base W).grown h3 hb (fun k hk => (World.ownsRow.lt hown k hk).1)

/-- A cell below is written. -/
theorem Lst.store {W : World} {base : Nat} {v : Value} {xs : List Int} (h : Lst W base v xs) {B i : Nat} (hB : B < base) (u : Value) : Lst (W.setCell ⟨B, i, none⟩ u) base v xs := ownsRow_setCell_below h (a := ⟨B, i, none⟩) hB u

end Go.Proofs.YtfbegeopiakccaaGreatDoor

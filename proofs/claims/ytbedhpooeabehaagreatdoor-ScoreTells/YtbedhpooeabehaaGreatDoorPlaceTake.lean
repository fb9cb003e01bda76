/-
  The closure in place.cables: what it puts behind the list that it is handed by its variable. (Written by a program: an axis at a time.)
-/
import Derived.Test.YtbedhpooeabehaaGreatDoorPart15
import Derived.Test.YtbedhpooeabehaaGreatDoorPart14
import Derived.Test.YtbedhpooeabehaaGreatDoorPart9
namespace Go.Proofs.YtbedhpooeabehaaGreatDoor
open Go Go.RowKit Go.Shelf

attribute [local go_sem] Oper.semAt_some ext_const

/-- What each operation of the closure's first statement keeps. -/
def wordA (d0 d1 d2 : Int) (b c : Bx) (k : Int) (B base : Nat) (X : List Int) (i : Nat) (v : Value) (w : World) : Prop :=
  match i with
  | 0 => v = A3 d0 d1 d2
  | 1 => v = .pointer (some ⟨B, 0, none⟩)
  | 2 => v = B6 b
  | 3 => v = I k
  | 4 => v = B6 c
  | 5 => ∃ u, v = .tuple #[u, I 0] ∧ Lst w base u X
  | 6 => ∃ u, v = .tuple #[u, I 0] ∧ Lst w base u X
  | 7 => Lst w base v X
  | 8 => v = I 0
  | 9 => Lst w base v X
  | 10 => v = I 0
  | _ => False
theorem wordA_later {d0 d1 d2 : Int} {b c : Bx} {k : Int} {B base : Nat} {X : List Int} (i : Nat) (v : Value) (w w' : World) (h : wordA d0 d1 d2 b c k B base X i v w) (hB : Below w.heap.size w w') : wordA d0 d1 d2 b c k B base X i v w' := by
  match i, h with
  | 0, h => exact h
  | 1, h => exact h
  | 2, h => exact h
  | 3, h => exact h
  | 4, h => exact h
  | 5, ⟨u, e, h⟩ => exact ⟨u, e, h.later hB⟩
  | 6, ⟨u, e, h⟩ => exact ⟨u, e, h.later hB⟩
  | 7, h => exact h.later hB
  | 8, h => exact h
  | 9, h => exact h.later hB
  | 10, h => exact h
  | n + 11, h => exact h.elim

/-- What each operation of the statement that asks for a run keeps. -/
def wordR (d0 d1 d2 m k s : Int) (t : Bool) (B o1 o2 base : Nat) (X : List Int) (i : Nat) (v : Value) (w : World) : Prop :=
  match i with
  | 0 => v = A3 d0 d1 d2
  | 1 => v = I k
  | 2 => v = I m
  | 3 => v = I k
  | 4 => v = .pointer (some ⟨B, 0, none⟩)
  | 5 => v = .pointer (some ⟨B, 3, none⟩)
  | 6 => v = .pointer (some ⟨B, o1, none⟩)
  | 7 => v = I s
  | 8 => v = I k
  | 9 => v = .pointer (some ⟨B, 6, none⟩)
  | 10 => v = .pointer (some ⟨B, o2, none⟩)
  | 11 => v = .bool t
  | 12 => ∃ u, v = .tuple #[u, I 0] ∧ Lst w base u X
  | 13 => ∃ u, v = .tuple #[u, I 0] ∧ Lst w base u X
  | 14 => Lst w base v X
  | 15 => v = I 0
  | 16 => Lst w base v X
  | 17 => v = I 0
  | _ => False
theorem wordR_later {d0 d1 d2 m k s : Int} {t : Bool} {B o1 o2 base : Nat} {X : List Int} (i : Nat) (v : Value) (w w' : World) (h : wordR d0 d1 d2 m k s t B o1 o2 base X i v w) (hB : Below w.heap.size w w') : wordR d0 d1 d2 m k s t B o1 o2 base X i v w' := by
  match i, h with
  | 0, h => exact h
  | 1, h => exact h
  | 2, h => exact h
  | 3, h => exact h
  | 4, h => exact h
  | 5, h => exact h
  | 6, h => exact h
  | 7, h => exact h
  | 8, h => exact h
  | 9, h => exact h
  | 10, h => exact h
  | 11, h => exact h
  | 12, ⟨u, e, h⟩ => exact ⟨u, e, h.later hB⟩
  | 13, ⟨u, e, h⟩ => exact ⟨u, e, h.later hB⟩
  | 14, h => exact h.later hB
  | 15, h => exact h
  | 16, h => exact h.later hB
  | 17, h => exact h
  | n + 18, h => exact h.elim

set_option maxRecDepth 100000 in
set_option maxHeartbeats 8000000 in
theorem take0 {d0 d1 d2 : Int} {b : Bx} {t0 t1 t2 : Bool} (w : World) (hm : mayD d0 d1 d2) (hp : mayP d0 d1 d2 b t0 t1 t2) {Bd Bp Bl : Nat} {v : Value} {xs : List Int}
    (hD : Blk w Bd 23 #[I d0, I d1, I d2]) (hP : Blk w Bp 30 (C9 b t0 t1 t2)) (hL : Blk w Bl 57 #[v]) (hDL : Bd < Bl) (hPL : Bp < Bl) (hv : Lst w (Bl + 1) v xs) (hl : xs.length ≤ 20000) :
    Calls Tryz.prog 70 #[I 0, .pointer (some ⟨Bd, 0, none⟩), .pointer (some ⟨Bp, 0, none⟩), .pointer (some ⟨Bl, 0, none⟩)] w fun e W' => ∃ v', e = .returned (I 0) ∧ Blk W' Bl 57 #[v'] ∧ Lst W' (Bl + 1) v' (xs ++ cabK d0 d1 d2 b t0 t1 t2 0) ∧ Below Bl w W' := by
  have hmx : Tryz.prog.follows .mixedOrders = true := by kernel_rfl
  have hlt := hL.lt
  have HFst : Hid (∀ w, Calls Tryz.prog 71 #[B6 b, I 0] w fun e W' => e = .returned (B6 ⟨b.x, b.y, b.z, 1, b.b, b.c⟩) ∧ Below w.heap.size w W') := fun w => firstP_calls b 0 w
  have HNod : Hid (∀ w, Calls Tryz.prog 48 #[A3 d0 d1 d2, B6 ⟨b.x, b.y, b.z, 1, b.b, b.c⟩] w fun e W' => ∃ v, e = .returned (.tuple #[v, I 0]) ∧ Lst W' w.heap.size v (nodesB d0 d1 d2 (upB b 1 0)) ∧ Below w.heap.size w W') := fun w => bnodes_ok w hm (first_may hm hp.1 0)
  have HRun : Hid (∀ (m : Int) w, 0 ≤ m ∧ m < d0 * d1 * d2 → Calls Tryz.prog 72 #[A3 d0 d1 d2, I 0, I m, I b.a, .bool t0] w fun e W' => ∃ v, e = .returned (.tuple #[v, I 0]) ∧ Lst W' w.heap.size v (cablesW d0 d1 d2 m 0 (mostW (dimAt d0 d1 d2 0) (sAt b 0) (tK t0 t1 t2 0)).toNat) ∧ Below w.heap.size w W') := fun m w hn => wrun_yes (k := 0) t0 w hm hn rfl (mayB_at hp.1 0).1
  have HLen : Hid ((cabK d0 d1 d2 b t0 t1 t2 0).length ≤ 4096) := cabK_len hm hp 0
  have HMem : Hid (∀ j, j < (nodesB d0 d1 d2 (upB b 1 0)).length → 0 ≤ (nodesB d0 d1 d2 (upB b 1 0)).getD j 0 ∧ (nodesB d0 d1 d2 (upB b 1 0)).getD j 0 < d0 * d1 * d2) := fun j hj => by
    rw [List.getD_eq_getElem?_getD, List.getElem?_eq_getElem hj]
    exact (nodesP_mem.1 (List.getElem_mem hj)).1
  have HC5 : Hid (∀ m, 0 ≤ m ∧ m < d0 * d1 * d2 → (cablesW d0 d1 d2 m 0 (mostW (dimAt d0 d1 d2 0) (sAt b 0) (tK t0 t1 t2 0)).toNat).length ≤ 4096) := fun m hn => by
    have hd := dimAt_ok hm 0
    unfold okD at hd
    rw [most_run hp 0]
    have hz := runS_bd (r := dimAt d0 d1 d2 0) (s := sAt b 0) (tK t0 t1 t2 0) (mayB_at hp.1 0).1
    rw [cables_len hm hn 0 (by omega)]
    split <;> omega
  have hXl := nodesB_len hm (upB b 1 0)
  have HCab : Hid (cabK d0 d1 d2 b t0 t1 t2 0 = (nodesB d0 d1 d2 (upB b 1 0)).flatMap fun m => cablesW d0 d1 d2 m 0 (mostW (dimAt d0 d1 d2 0) (sAt b 0) (tK t0 t1 t2 0)).toNat) := rfl
  generalize cabK d0 d1 d2 b t0 t1 t2 0 = Cb at *
  generalize nodesB d0 d1 d2 (upB b 1 0) = X at *
  generalize (mostW (dimAt d0 d1 d2 0) (sAt b 0) (tK t0 t1 t2 0)).toNat = mo at *
  clear hm hp
  go_enter Tryz.func70, Tryz.ntmps70
  go_wp2_with fail
  refine wp_region_loud (w0 := w) (wordA d0 d1 d2 b ⟨b.x, b.y, b.z, 1, b.b, b.c⟩ 0 Bp w.heap.size X) hmx (by kernel_rfl) wordA_later ?_ ?_
  · intro i o hi a w' hT hL hpre
    have s0 : a.tmps.getD 0 undef = I 0 := by
      rw [Array.getD_eq_getD_getElem?, hL.out 0 (of_decide_eq_true (by kernel_rfl))]; rfl
    have s1 : a.tmps.getD 1 undef = .pointer (some ⟨Bd, 0, none⟩) := by
      rw [Array.getD_eq_getD_getElem?, hL.out 1 (of_decide_eq_true (by kernel_rfl))]; rfl
    have s2 : a.tmps.getD 2 undef = .pointer (some ⟨Bp, 0, none⟩) := by
      rw [Array.getD_eq_getD_getElem?, hL.out 2 (of_decide_eq_true (by kernel_rfl))]; rfl
    obtain ⟨c0, c1, c2, hz⟩ := hD.three hT
    obtain ⟨⟨x0, x1, x2⟩, ⟨x3, x4, x5⟩, _, hz1⟩ := hP.nine hT
    clear hL
    match i, hi with
    | 0, hi =>
      obtain rfl := Option.some.inj hi
      refine .inl ⟨A3 d0 d1 d2, ?_, rfl⟩
      simp [execOp, go_sem, Act.eval, s1, c0, c1, c2]
    | 1, hi =>
      obtain rfl := Option.some.inj hi
      refine .inl ⟨.pointer (some ⟨Bp, 0, none⟩), ?_, rfl⟩
      simp [execOp, go_sem, Act.eval, s2]
    | 2, hi =>
      obtain rfl := Option.some.inj hi
      have p0 : a.tmps.getD 14 undef = .pointer (some ⟨Bp, 0, none⟩) := hpre ⟨1, .data⟩ (by simp) rfl
      refine .inl ⟨B6 b, ?_, rfl⟩
      simp [execOp, go_sem, Act.eval, p0, x0, x1, x2, x3, x4, x5]
    | 3, hi =>
      obtain rfl := Option.some.inj hi
      refine .inl ⟨I 0, ?_, rfl⟩
      simp [execOp, go_sem, Act.eval, s0]
    | 4, hi =>
      obtain rfl := Option.some.inj hi
      have p0 : a.tmps.getD 15 undef = B6 b := hpre ⟨2, .data⟩ (by simp) rfl
      have p1 : a.tmps.getD 16 undef = I 0 := hpre ⟨3, .data⟩ (by simp) rfl
      refine .inr ⟨71, #[B6 b, I 0], ?_, ?_⟩
      · simp [go_sem, Act.eval, p0, p1]
      · refine (HFst.out w').mono ?_
        rintro e w'' ⟨rfl, hB⟩
        exact ⟨_, rfl, hB, rfl⟩
    | 5, hi =>
      obtain rfl := Option.some.inj hi
      have p0 : a.tmps.getD 13 undef = A3 d0 d1 d2 := hpre ⟨0, .data⟩ (by simp) rfl
      have p1 : a.tmps.getD 17 undef = B6 ⟨b.x, b.y, b.z, 1, b.b, b.c⟩ := hpre ⟨4, .data⟩ (by simp) rfl
      refine .inr ⟨48, #[A3 d0 d1 d2, B6 ⟨b.x, b.y, b.z, 1, b.b, b.c⟩], ?_, ?_⟩
      · simp [go_sem, Act.eval, p0, p1]
      · refine (HNod.out w').mono ?_
        rintro e w'' ⟨u, rfl, hl, hB⟩
        exact ⟨_, rfl, hB, u, rfl, hl.weak hT.size⟩
    | 6, hi =>
      obtain rfl := Option.some.inj hi
      have p0 : ∃ u, a.tmps.getD 18 undef = .tuple #[u, I 0] ∧ Lst w' w.heap.size u X := hpre ⟨5, .data⟩ (by simp) rfl
      refine .inl ⟨a.tmps.getD 18 undef, ?_, p0⟩
      simp [execOp, go_sem, Act.eval]
    | 7, hi =>
      obtain rfl := Option.some.inj hi
      obtain ⟨u, p0, p1⟩ : ∃ u, a.tmps.getD 12 undef = .tuple #[u, I 0] ∧ Lst w' w.heap.size u X := hpre ⟨6, .data⟩ (by simp) rfl
      refine .inl ⟨u, ?_, p1⟩
      simp [execOp, go_sem, Act.eval, p0]
    | 8, hi =>
      obtain rfl := Option.some.inj hi
      obtain ⟨u, p0, p1⟩ : ∃ u, a.tmps.getD 12 undef = .tuple #[u, I 0] ∧ Lst w' w.heap.size u X := hpre ⟨6, .data⟩ (by simp) rfl
      refine .inl ⟨I 0, ?_, rfl⟩
      simp [execOp, go_sem, Act.eval, p0]
    | 9, hi =>
      obtain rfl := Option.some.inj hi
      have p0 : Lst w' w.heap.size (a.tmps.getD 19 undef) X := hpre ⟨7, .data⟩ (by simp) rfl
      refine .inl ⟨a.tmps.getD 19 undef, ?_, p0⟩
      simp [execOp, go_sem, Act.eval]
    | 10, hi =>
      obtain rfl := Option.some.inj hi
      have p0 : a.tmps.getD 20 undef = I 0 := hpre ⟨8, .data⟩ (by simp) rfl
      refine .inl ⟨I 0, ?_, rfl⟩
      simp [execOp, go_sem, Act.eval, p0]
    | n + 11, hi => simp at hi
  · intro vs w1 hT1 hall
    have hX0 : Lst w1 w.heap.size (vs 9) X := hall 9 (of_decide_eq_true (by kernel_rfl))
    have h10 : vs 10 = I 0 := hall 10 (of_decide_eq_true (by kernel_rfl))
    clear hall
    have hBes : Beside (vs 9) v := Beside.of_old hX0 hv (Nat.le_refl _)
    have hX := hX0.weak (base' := Bl + 1) hlt
    clear hX0
    obtain ⟨aX, cX, eX, hvw0⟩ := hX.view
    clear hvw0
    simp only [List.length_cons, List.length_nil, Nat.zero_add, Nat.reduceAdd, List.range, List.range.loop, List.foldl_cons, List.foldl_nil, dstOf, List.getElem?_cons_zero, List.getElem?_cons_succ, Option.getD_some, Act.put, h10, eX, List.setIfInBounds_toArray, List.set_cons_succ, List.set_cons_zero]
    rw [eX] at hX hBes
    clear eX h10
    generalize vs 0 = v0
    generalize vs 1 = v1
    generalize vs 2 = v2
    generalize vs 3 = v3
    generalize vs 4 = v4
    generalize vs 5 = v5
    generalize vs 6 = v6
    generalize vs 7 = v7
    generalize vs 8 = v8
    clear vs
    have hL1 := hL.later hT1
    have hv1 := hv.later hT1
    have hBl : Below Bl w w1 := hT1.mono (Nat.le_of_lt hlt)
    clear hT1
    go_wp2_with fail
    go_loopw [26] (fun i wr => ∃ (j : Nat) (u : Value), j ≤ X.length ∧ i = .int .i64 j ∧ Blk wr Bl 57 #[u] ∧ Lst wr (Bl + 1) u (xs ++ (X.take j).flatMap fun m => cablesW d0 d1 d2 m 0 mo) ∧ Lst wr (Bl + 1) (.slice aX X.length cX) X ∧ Beside (.slice aX X.length cX) u ∧ Below Bl w wr) (fun i _ => X.length - (RowKit.intOf i).toNat)
    case atStart => exact ⟨0, v, by omega, rfl, hL1, by simpa using hv1, hX, hBes, hBl⟩
    case round =>
      clear hL1 hv1 hBl hX hBes
      obtain ⟨j, u, hj, rfl, hLr, hvr, hX, hBes, hBl⟩ := hrel
      have gD := hD.below hBl hDL
      have gP := hP.below hBl hPL
      have hltr := hLr.lt
      by_cases hlt' : (j : Int) < (X.length : Int)
      · have hjl : j < X.length := by omega
        have hmem := HMem.out j hjl
        have HR2 := fun w => HRun.out (X.getD j 0) w hmem
        have hc4 := HC5.out _ hmem
        have HTk : Hid ((X.take (j + 1)).flatMap (fun m => cablesW d0 d1 d2 m 0 mo) = (X.take j).flatMap (fun m => cablesW d0 d1 d2 m 0 mo) ++ cablesW d0 d1 d2 (X.getD j 0) 0 mo) := by
          show _ = _
          rw [List.take_succ_eq_append_getElem hjl, List.flatMap_append, List.getD_eq_getElem?_getD, List.getElem?_eq_getElem hjl]
          simp
        have hlong : (xs ++ (X.take j).flatMap fun m => cablesW d0 d1 d2 m 0 mo).length ≤ 100000 := by
          have h1 : ((X.take j).flatMap fun m => cablesW d0 d1 d2 m 0 mo).length ≤ Cb.length := by
            rw [HCab.out]
            have := congrArg (List.flatMap fun m => cablesW d0 d1 d2 m 0 mo) (List.take_append_drop j X)
            rw [← this, List.flatMap_append, List.length_append]
            omega
          have h2 := HLen.out
          rw [List.length_append]
          omega
        obtain ⟨ao, cap, e, hvw⟩ := hX.view
        simp only [Value.slice.injEq] at e
        obtain ⟨e1, -, -⟩ := e
        subst e1
        obtain ⟨g, cur, rfl, hg, hc⟩ := hvw j hjl
        have cXj := hg.cell j
        rw [hc] at cXj
        clear hg hc hvw
        obtain ⟨ys, hys⟩ : ∃ ys, ys = xs ++ (X.take j).flatMap fun m => cablesW d0 d1 d2 m 0 mo := ⟨_, rfl⟩
        rw [← hys] at hvr hlong
        have HYs : Hid (ys = xs ++ (X.take j).flatMap fun m => cablesW d0 d1 d2 m 0 mo) := hys
        clear hys
        generalize cablesW d0 d1 d2 (X.getD j 0) 0 mo = zs at *
        generalize X.getD j 0 = m at *
        go_wp2_with fail
        refine wp_region_loud (w0 := wr) (wordR d0 d1 d2 m 0 b.a t0 Bp 3 6 wr.heap.size zs) hmx (by kernel_rfl) wordR_later ?_ ?_
        · intro i o hi a w' hT hL hpre
          have s0 : a.tmps.getD 0 undef = I 0 := by
            rw [Array.getD_eq_getD_getElem?, hL.out 0 (of_decide_eq_true (by kernel_rfl))]; rfl
          have s1 : a.tmps.getD 1 undef = .pointer (some ⟨Bd, 0, none⟩) := by
            rw [Array.getD_eq_getD_getElem?, hL.out 1 (of_decide_eq_true (by kernel_rfl))]; rfl
          have s2 : a.tmps.getD 2 undef = .pointer (some ⟨Bp, 0, none⟩) := by
            rw [Array.getD_eq_getD_getElem?, hL.out 2 (of_decide_eq_true (by kernel_rfl))]; rfl
          have s9 : a.tmps.getD 9 undef = I m := by
            rw [Array.getD_eq_getD_getElem?, hL.out 9 (of_decide_eq_true (by kernel_rfl))]; rfl
          obtain ⟨c0, c1, c2, hz⟩ := gD.three hT
          obtain ⟨⟨x0, x1, x2⟩, ⟨x3, x4, x5⟩, ⟨x6, x7, x8⟩, hz1⟩ := gP.nine hT
          clear hL
          match i, hi with
          | 0, hi =>
            obtain rfl := Option.some.inj hi
            refine .inl ⟨A3 d0 d1 d2, ?_, rfl⟩
            simp [execOp, go_sem, Act.eval, s1, c0, c1, c2]
          | 1, hi =>
            obtain rfl := Option.some.inj hi
            refine .inl ⟨I 0, ?_, rfl⟩
            simp [execOp, go_sem, Act.eval, s0]
          | 2, hi =>
            obtain rfl := Option.some.inj hi
            refine .inl ⟨I m, ?_, rfl⟩
            simp [execOp, go_sem, Act.eval, s9]
          | 3, hi =>
            obtain rfl := Option.some.inj hi
            refine .inl ⟨I 0, ?_, rfl⟩
            simp [execOp, go_sem, Act.eval, s0]
          | 4, hi =>
            obtain rfl := Option.some.inj hi
            refine .inl ⟨.pointer (some ⟨Bp, 0, none⟩), ?_, rfl⟩
            simp [execOp, go_sem, Act.eval, s2]
          | 5, hi =>
            obtain rfl := Option.some.inj hi
            have p0 : a.tmps.getD 35 undef = .pointer (some ⟨Bp, 0, none⟩) := hpre ⟨4, .data⟩ (by simp) rfl
            refine .inl ⟨.pointer (some ⟨Bp, 3, none⟩), ?_, rfl⟩
            simp [execOp, go_sem, Act.eval, p0]
          | 6, hi =>
            obtain rfl := Option.some.inj hi
            have p0 : a.tmps.getD 36 undef = .pointer (some ⟨Bp, 3, none⟩) := hpre ⟨5, .data⟩ (by simp) rfl
            have p1 : a.tmps.getD 34 undef = I 0 := hpre ⟨3, .data⟩ (by simp) rfl
            refine .inl ⟨.pointer (some ⟨Bp, 3, none⟩), ?_, rfl⟩
            simp [execOp, go_sem, Act.eval, p0, p1]
          | 7, hi =>
            obtain rfl := Option.some.inj hi
            have p0 : a.tmps.getD 37 undef = .pointer (some ⟨Bp, 3, none⟩) := hpre ⟨6, .data⟩ (by simp) rfl
            refine .inl ⟨I b.a, ?_, rfl⟩
            simp [execOp, go_sem, Act.eval, p0, x3]
          | 8, hi =>
            obtain rfl := Option.some.inj hi
            refine .inl ⟨I 0, ?_, rfl⟩
            simp [execOp, go_sem, Act.eval, s0]
          | 9, hi =>
            obtain rfl := Option.some.inj hi
            refine .inl ⟨.pointer (some ⟨Bp, 6, none⟩), ?_, rfl⟩
            simp [execOp, go_sem, Act.eval, s2]
          | 10, hi =>
            obtain rfl := Option.some.inj hi
            have p0 : a.tmps.getD 40 undef = .pointer (some ⟨Bp, 6, none⟩) := hpre ⟨9, .data⟩ (by simp) rfl
            have p1 : a.tmps.getD 39 undef = I 0 := hpre ⟨8, .data⟩ (by simp) rfl
            refine .inl ⟨.pointer (some ⟨Bp, 6, none⟩), ?_, rfl⟩
            simp [execOp, go_sem, Act.eval, p0, p1]
          | 11, hi =>
            obtain rfl := Option.some.inj hi
            have p0 : a.tmps.getD 41 undef = .pointer (some ⟨Bp, 6, none⟩) := hpre ⟨10, .data⟩ (by simp) rfl
            refine .inl ⟨.bool t0, ?_, rfl⟩
            simp [execOp, go_sem, Act.eval, p0, x6]
          | 12, hi =>
            obtain rfl := Option.some.inj hi
            have p0 : a.tmps.getD 31 undef = A3 d0 d1 d2 := hpre ⟨0, .data⟩ (by simp) rfl
            have p1 : a.tmps.getD 32 undef = I 0 := hpre ⟨1, .data⟩ (by simp) rfl
            have p2 : a.tmps.getD 33 undef = I m := hpre ⟨2, .data⟩ (by simp) rfl
            have p3 : a.tmps.getD 38 undef = I b.a := hpre ⟨7, .data⟩ (by simp) rfl
            have p4 : a.tmps.getD 42 undef = .bool t0 := hpre ⟨11, .data⟩ (by simp) rfl
            refine .inr ⟨72, #[A3 d0 d1 d2, I 0, I m, I b.a, .bool t0], ?_, ?_⟩
            · simp [go_sem, Act.eval, p0, p1, p2, p3, p4]
            · refine (HR2 w').mono ?_
              rintro e w'' ⟨u, rfl, hl, hB⟩
              exact ⟨_, rfl, hB, u, rfl, hl.weak hT.size⟩
          | 13, hi =>
            obtain rfl := Option.some.inj hi
            have p0 : ∃ u, a.tmps.getD 43 undef = .tuple #[u, I 0] ∧ Lst w' wr.heap.size u zs := hpre ⟨12, .data⟩ (by simp) rfl
            refine .inl ⟨a.tmps.getD 43 undef, ?_, p0⟩
            simp [execOp, go_sem, Act.eval]
          | 14, hi =>
            obtain rfl := Option.some.inj hi
            obtain ⟨u, p0, p1⟩ : ∃ u, a.tmps.getD 30 undef = .tuple #[u, I 0] ∧ Lst w' wr.heap.size u zs := hpre ⟨13, .data⟩ (by simp) rfl
            refine .inl ⟨u, ?_, p1⟩
            simp [execOp, go_sem, Act.eval, p0]
          | 15, hi =>
            obtain rfl := Option.some.inj hi
            obtain ⟨u, p0, p1⟩ : ∃ u, a.tmps.getD 30 undef = .tuple #[u, I 0] ∧ Lst w' wr.heap.size u zs := hpre ⟨13, .data⟩ (by simp) rfl
            refine .inl ⟨I 0, ?_, rfl⟩
            simp [execOp, go_sem, Act.eval, p0]
          | 16, hi =>
            obtain rfl := Option.some.inj hi
            have p0 : Lst w' wr.heap.size (a.tmps.getD 44 undef) zs := hpre ⟨14, .data⟩ (by simp) rfl
            refine .inl ⟨a.tmps.getD 44 undef, ?_, p0⟩
            simp [execOp, go_sem, Act.eval]
          | 17, hi =>
            obtain rfl := Option.some.inj hi
            have p0 : a.tmps.getD 45 undef = I 0 := hpre ⟨15, .data⟩ (by simp) rfl
            refine .inl ⟨I 0, ?_, rfl⟩
            simp [execOp, go_sem, Act.eval, p0]
          | n + 18, hi => simp at hi
        · intro vs w2 hT2 hall
          have hZ : Lst w2 wr.heap.size (vs 16) zs := hall 16 (of_decide_eq_true (by kernel_rfl))
          have h17 : vs 17 = I 0 := hall 17 (of_decide_eq_true (by kernel_rfl))
          clear hall
          simp only [List.length_cons, List.length_nil, Nat.zero_add, Nat.reduceAdd, List.range, List.range.loop, List.foldl_cons, List.foldl_nil, dstOf, List.getElem?_cons_zero, List.getElem?_cons_succ, Option.getD_some, Act.put, h17, List.setIfInBounds_toArray, List.set_cons_succ, List.set_cons_zero]
          clear h17
          generalize vs 16 = uz at *
          generalize vs 0 = y0
          generalize vs 1 = y1
          generalize vs 2 = y2
          generalize vs 3 = y3
          generalize vs 4 = y4
          generalize vs 5 = y5
          generalize vs 6 = y6
          generalize vs 7 = y7
          generalize vs 8 = y8
          generalize vs 9 = y9
          generalize vs 10 = y10
          generalize vs 11 = y11
          generalize vs 12 = y12
          generalize vs 13 = y13
          generalize vs 14 = y14
          generalize vs 15 = y15
          clear vs
          have hL2 := hLr.later hT2
          have hv2 := hvr.later hT2
          have hX2 := hX.later hT2
          have hB2 : Below Bl w w2 := hBl.trans (hT2.mono (Nat.le_of_lt hltr))
          have cL := hL2.cell 0
          have fL := hL2.frozen 0
          have hlt2 := hL2.lt
          simp at cL
          clear hT2 hLr hvr hX cXj
          go_wp2_with (at_builtin; refine wpList_catK (k := .slice (some ⟨g, 0, none⟩) X.length cX) rfl _ _ rfl rfl rfl hv2 hZ hX2 hBes hlong (by omega) hlt2 ?_; intro v3 w3 hv3 hX3 hBes3 hB3
                       obtain ⟨a3, c3, e3, hvw3⟩ := hv3.view; subst e3; clear hvw3; rw [List.length_append] at hv3 hBes3
                       have hL3 := hL2.below hB3 (Nat.lt_succ_self _)
                       have cL3 := hL3.cell 0
                       simp at cL3
                       have fL3 := hL3.frozen 0
                       clear cL fL hlt2)
          go_roundw
          case rel =>
            refine ⟨j + 1, _, by omega, by go_num, hL3.set 0 _, ?_, hX3.store (Nat.lt_succ_self _) _, hBes3, ?_⟩
            · have E : xs ++ (X.take (j + 1)).flatMap (fun m => cablesW d0 d1 d2 m 0 mo) = ys ++ zs := by rw [HTk.out, ← List.append_assoc, ← HYs.out]
              rw [E]
              exact hv3.store (Nat.lt_succ_self _) _
            · exact (hB2.trans (hB3.mono (Nat.le_succ _))).setCell (p := ⟨Bl, 0, none⟩) (Nat.le_refl _) _
          case measure => simp [RowKit.intOf]; omega
      · have e : j = X.length := by omega
        subst e
        rw [List.take_length, ← HCab.out] at hvr
        go_wp2
        go_ret
        first | exact ⟨_, rfl, hLr, hvr, hBl⟩ | exact ⟨rfl, _, hLr, hvr, hBl⟩

set_option maxRecDepth 100000 in
set_option maxHeartbeats 8000000 in
theorem take1 {d0 d1 d2 : Int} {b : Bx} {t0 t1 t2 : Bool} (w : World) (hm : mayD d0 d1 d2) (hp : mayP d0 d1 d2 b t0 t1 t2) {Bd Bp Bl : Nat} {v : Value} {xs : List Int}
    (hD : Blk w Bd 23 #[I d0, I d1, I d2]) (hP : Blk w Bp 30 (C9 b t0 t1 t2)) (hL : Blk w Bl 57 #[v]) (hDL : Bd < Bl) (hPL : Bp < Bl) (hv : Lst w (Bl + 1) v xs) (hl : xs.length ≤ 20000) :
    Calls Tryz.prog 70 #[I 1, .pointer (some ⟨Bd, 0, none⟩), .pointer (some ⟨Bp, 0, none⟩), .pointer (some ⟨Bl, 0, none⟩)] w fun e W' => ∃ v', e = .returned (I 0) ∧ Blk W' Bl 57 #[v'] ∧ Lst W' (Bl + 1) v' (xs ++ cabK d0 d1 d2 b t0 t1 t2 1) ∧ Below Bl w W' := by
  have hmx : Tryz.prog.follows .mixedOrders = true := by kernel_rfl
  have hlt := hL.lt
  have HFst : Hid (∀ w, Calls Tryz.prog 71 #[B6 b, I 1] w fun e W' => e = .returned (B6 ⟨b.x, b.y, b.z, b.a, 1, b.c⟩) ∧ Below w.heap.size w W') := fun w => firstP_calls b 1 w
  have HNod : Hid (∀ w, Calls Tryz.prog 48 #[A3 d0 d1 d2, B6 ⟨b.x, b.y, b.z, b.a, 1, b.c⟩] w fun e W' => ∃ v, e = .returned (.tuple #[v, I 0]) ∧ Lst W' w.heap.size v (nodesB d0 d1 d2 (upB b 1 1)) ∧ Below w.heap.size w W') := fun w => bnodes_ok w hm (first_may hm hp.1 1)
  have HRun : Hid (∀ (m : Int) w, 0 ≤ m ∧ m < d0 * d1 * d2 → Calls Tryz.prog 72 #[A3 d0 d1 d2, I 1, I m, I b.b, .bool t1] w fun e W' => ∃ v, e = .returned (.tuple #[v, I 0]) ∧ Lst W' w.heap.size v (cablesW d0 d1 d2 m 1 (mostW (dimAt d0 d1 d2 1) (sAt b 1) (tK t0 t1 t2 1)).toNat) ∧ Below w.heap.size w W') := fun m w hn => wrun_yes (k := 1) t1 w hm hn rfl (mayB_at hp.1 1).1
  have HLen : Hid ((cabK d0 d1 d2 b t0 t1 t2 1).length ≤ 4096) := cabK_len hm hp 1
  have HMem : Hid (∀ j, j < (nodesB d0 d1 d2 (upB b 1 1)).length → 0 ≤ (nodesB d0 d1 d2 (upB b 1 1)).getD j 0 ∧ (nodesB d0 d1 d2 (upB b 1 1)).getD j 0 < d0 * d1 * d2) := fun j hj => by
    rw [List.getD_eq_getElem?_getD, List.getElem?_eq_getElem hj]
    exact (nodesP_mem.1 (List.getElem_mem hj)).1
  have HC5 : Hid (∀ m, 0 ≤ m ∧ m < d0 * d1 * d2 → (cablesW d0 d1 d2 m 1 (mostW (dimAt d0 d1 d2 1) (sAt b 1) (tK t0 t1 t2 1)).toNat).length ≤ 4096) := fun m hn => by
    have hd := dimAt_ok hm 1
    unfold okD at hd
    rw [most_run hp 1]
    have hz := runS_bd (r := dimAt d0 d1 d2 1) (s := sAt b 1) (tK t0 t1 t2 1) (mayB_at hp.1 1).1
    rw [cables_len hm hn 1 (by omega)]
    split <;> omega
  have hXl := nodesB_len hm (upB b 1 1)
  have HCab : Hid (cabK d0 d1 d2 b t0 t1 t2 1 = (nodesB d0 d1 d2 (upB b 1 1)).flatMap fun m => cablesW d0 d1 d2 m 1 (mostW (dimAt d0 d1 d2 1) (sAt b 1) (tK t0 t1 t2 1)).toNat) := rfl
  generalize cabK d0 d1 d2 b t0 t1 t2 1 = Cb at *
  generalize nodesB d0 d1 d2 (upB b 1 1) = X at *
  generalize (mostW (dimAt d0 d1 d2 1) (sAt b 1) (tK t0 t1 t2 1)).toNat = mo at *
  clear hm hp
  go_enter Tryz.func70, Tryz.ntmps70
  go_wp2_with fail
  refine wp_region_loud (w0 := w) (wordA d0 d1 d2 b ⟨b.x, b.y, b.z, b.a, 1, b.c⟩ 1 Bp w.heap.size X) hmx (by kernel_rfl) wordA_later ?_ ?_
  · intro i o hi a w' hT hL hpre
    have s0 : a.tmps.getD 0 undef = I 1 := by
      rw [Array.getD_eq_getD_getElem?, hL.out 0 (of_decide_eq_true (by kernel_rfl))]; rfl
    have s1 : a.tmps.getD 1 undef = .pointer (some ⟨Bd, 0, none⟩) := by
      rw [Array.getD_eq_getD_getElem?, hL.out 1 (of_decide_eq_true (by kernel_rfl))]; rfl
    have s2 : a.tmps.getD 2 undef = .pointer (some ⟨Bp, 0, none⟩) := by
      rw [Array.getD_eq_getD_getElem?, hL.out 2 (of_decide_eq_true (by kernel_rfl))]; rfl
    obtain ⟨c0, c1, c2, hz⟩ := hD.three hT
    obtain ⟨⟨x0, x1, x2⟩, ⟨x3, x4, x5⟩, _, hz1⟩ := hP.nine hT
    clear hL
    match i, hi with
    | 0, hi =>
      obtain rfl := Option.some.inj hi
      refine .inl ⟨A3 d0 d1 d2, ?_, rfl⟩
      simp [execOp, go_sem, Act.eval, s1, c0, c1, c2]
    | 1, hi =>
      obtain rfl := Option.some.inj hi
      refine .inl ⟨.pointer (some ⟨Bp, 0, none⟩), ?_, rfl⟩
      simp [execOp, go_sem, Act.eval, s2]
    | 2, hi =>
      obtain rfl := Option.some.inj hi
      have p0 : a.tmps.getD 14 undef = .pointer (some ⟨Bp, 0, none⟩) := hpre ⟨1, .data⟩ (by simp) rfl
      refine .inl ⟨B6 b, ?_, rfl⟩
      simp [execOp, go_sem, Act.eval, p0, x0, x1, x2, x3, x4, x5]
    | 3, hi =>
      obtain rfl := Option.some.inj hi
      refine .inl ⟨I 1, ?_, rfl⟩
      simp [execOp, go_sem, Act.eval, s0]
    | 4, hi =>
      obtain rfl := Option.some.inj hi
      have p0 : a.tmps.getD 15 undef = B6 b := hpre ⟨2, .data⟩ (by simp) rfl
      have p1 : a.tmps.getD 16 undef = I 1 := hpre ⟨3, .data⟩ (by simp) rfl
      refine .inr ⟨71, #[B6 b, I 1], ?_, ?_⟩
      · simp [go_sem, Act.eval, p0, p1]
      · refine (HFst.out w').mono ?_
        rintro e w'' ⟨rfl, hB⟩
        exact ⟨_, rfl, hB, rfl⟩
    | 5, hi =>
      obtain rfl := Option.some.inj hi
      have p0 : a.tmps.getD 13 undef = A3 d0 d1 d2 := hpre ⟨0, .data⟩ (by simp) rfl
      have p1 : a.tmps.getD 17 undef = B6 ⟨b.x, b.y, b.z, b.a, 1, b.c⟩ := hpre ⟨4, .data⟩ (by simp) rfl
      refine .inr ⟨48, #[A3 d0 d1 d2, B6 ⟨b.x, b.y, b.z, b.a, 1, b.c⟩], ?_, ?_⟩
      · simp [go_sem, Act.eval, p0, p1]
      · refine (HNod.out w').mono ?_
        rintro e w'' ⟨u, rfl, hl, hB⟩
        exact ⟨_, rfl, hB, u, rfl, hl.weak hT.size⟩
    | 6, hi =>
      obtain rfl := Option.some.inj hi
      have p0 : ∃ u, a.tmps.getD 18 undef = .tuple #[u, I 0] ∧ Lst w' w.heap.size u X := hpre ⟨5, .data⟩ (by simp) rfl
      refine .inl ⟨a.tmps.getD 18 undef, ?_, p0⟩
      simp [execOp, go_sem, Act.eval]
    | 7, hi =>
      obtain rfl := Option.some.inj hi
      obtain ⟨u, p0, p1⟩ : ∃ u, a.tmps.getD 12 undef = .tuple #[u, I 0] ∧ Lst w' w.heap.size u X := hpre ⟨6, .data⟩ (by simp) rfl
      refine .inl ⟨u, ?_, p1⟩
      simp [execOp, go_sem, Act.eval, p0]
    | 8, hi =>
      obtain rfl := Option.some.inj hi
      obtain ⟨u, p0, p1⟩ : ∃ u, a.tmps.getD 12 undef = .tuple #[u, I 0] ∧ Lst w' w.heap.size u X := hpre ⟨6, .data⟩ (by simp) rfl
      refine .inl ⟨I 0, ?_, rfl⟩
      simp [execOp, go_sem, Act.eval, p0]
    | 9, hi =>
      obtain rfl := Option.some.inj hi
      have p0 : Lst w' w.heap.size (a.tmps.getD 19 undef) X := hpre ⟨7, .data⟩ (by simp) rfl
      refine .inl ⟨a.tmps.getD 19 undef, ?_, p0⟩
      simp [execOp, go_sem, Act.eval]
    | 10, hi =>
      obtain rfl := Option.some.inj hi
      have p0 : a.tmps.getD 20 undef = I 0 := hpre ⟨8, .data⟩ (by simp) rfl
      refine .inl ⟨I 0, ?_, rfl⟩
      simp [execOp, go_sem, Act.eval, p0]
    | n + 11, hi => simp at hi
  · intro vs w1 hT1 hall
    have hX0 : Lst w1 w.heap.size (vs 9) X := hall 9 (of_decide_eq_true (by kernel_rfl))
    have h10 : vs 10 = I 0 := hall 10 (of_decide_eq_true (by kernel_rfl))
    clear hall
    have hBes : Beside (vs 9) v := Beside.of_old hX0 hv (Nat.le_refl _)
    have hX := hX0.weak (base' := Bl + 1) hlt
    clear hX0
    obtain ⟨aX, cX, eX, hvw0⟩ := hX.view
    clear hvw0
    simp only [List.length_cons, List.length_nil, Nat.zero_add, Nat.reduceAdd, List.range, List.range.loop, List.foldl_cons, List.foldl_nil, dstOf, List.getElem?_cons_zero, List.getElem?_cons_succ, Option.getD_some, Act.put, h10, eX, List.setIfInBounds_toArray, List.set_cons_succ, List.set_cons_zero]
    rw [eX] at hX hBes
    clear eX h10
    generalize vs 0 = v0
    generalize vs 1 = v1
    generalize vs 2 = v2
    generalize vs 3 = v3
    generalize vs 4 = v4
    generalize vs 5 = v5
    generalize vs 6 = v6
    generalize vs 7 = v7
    generalize vs 8 = v8
    clear vs
    have hL1 := hL.later hT1
    have hv1 := hv.later hT1
    have hBl : Below Bl w w1 := hT1.mono (Nat.le_of_lt hlt)
    clear hT1
    go_wp2_with fail
    go_loopw [26] (fun i wr => ∃ (j : Nat) (u : Value), j ≤ X.length ∧ i = .int .i64 j ∧ Blk wr Bl 57 #[u] ∧ Lst wr (Bl + 1) u (xs ++ (X.take j).flatMap fun m => cablesW d0 d1 d2 m 1 mo) ∧ Lst wr (Bl + 1) (.slice aX X.length cX) X ∧ Beside (.slice aX X.length cX) u ∧ Below Bl w wr) (fun i _ => X.length - (RowKit.intOf i).toNat)
    case atStart => exact ⟨0, v, by omega, rfl, hL1, by simpa using hv1, hX, hBes, hBl⟩
    case round =>
      clear hL1 hv1 hBl hX hBes
      obtain ⟨j, u, hj, rfl, hLr, hvr, hX, hBes, hBl⟩ := hrel
      have gD := hD.below hBl hDL
      have gP := hP.below hBl hPL
      have hltr := hLr.lt
      by_cases hlt' : (j : Int) < (X.length : Int)
      · have hjl : j < X.length := by omega
        have hmem := HMem.out j hjl
        have HR2 := fun w => HRun.out (X.getD j 0) w hmem
        have hc4 := HC5.out _ hmem
        have HTk : Hid ((X.take (j + 1)).flatMap (fun m => cablesW d0 d1 d2 m 1 mo) = (X.take j).flatMap (fun m => cablesW d0 d1 d2 m 1 mo) ++ cablesW d0 d1 d2 (X.getD j 0) 1 mo) := by
          show _ = _
          rw [List.take_succ_eq_append_getElem hjl, List.flatMap_append, List.getD_eq_getElem?_getD, List.getElem?_eq_getElem hjl]
          simp
        have hlong : (xs ++ (X.take j).flatMap fun m => cablesW d0 d1 d2 m 1 mo).length ≤ 100000 := by
          have h1 : ((X.take j).flatMap fun m => cablesW d0 d1 d2 m 1 mo).length ≤ Cb.length := by
            rw [HCab.out]
            have := congrArg (List.flatMap fun m => cablesW d0 d1 d2 m 1 mo) (List.take_append_drop j X)
            rw [← this, List.flatMap_append, List.length_append]
            omega
          have h2 := HLen.out
          rw [List.length_append]
          omega
        obtain ⟨ao, cap, e, hvw⟩ := hX.view
        simp only [Value.slice.injEq] at e
        obtain ⟨e1, -, -⟩ := e
        subst e1
        obtain ⟨g, cur, rfl, hg, hc⟩ := hvw j hjl
        have cXj := hg.cell j
        rw [hc] at cXj
        clear hg hc hvw
        obtain ⟨ys, hys⟩ : ∃ ys, ys = xs ++ (X.take j).flatMap fun m => cablesW d0 d1 d2 m 1 mo := ⟨_, rfl⟩
        rw [← hys] at hvr hlong
        have HYs : Hid (ys = xs ++ (X.take j).flatMap fun m => cablesW d0 d1 d2 m 1 mo) := hys
        clear hys
        generalize cablesW d0 d1 d2 (X.getD j 0) 1 mo = zs at *
        generalize X.getD j 0 = m at *
        go_wp2_with fail
        refine wp_region_loud (w0 := wr) (wordR d0 d1 d2 m 1 b.b t1 Bp 4 7 wr.heap.size zs) hmx (by kernel_rfl) wordR_later ?_ ?_
        · intro i o hi a w' hT hL hpre
          have s0 : a.tmps.getD 0 undef = I 1 := by
            rw [Array.getD_eq_getD_getElem?, hL.out 0 (of_decide_eq_true (by kernel_rfl))]; rfl
          have s1 : a.tmps.getD 1 undef = .pointer (some ⟨Bd, 0, none⟩) := by
            rw [Array.getD_eq_getD_getElem?, hL.out 1 (of_decide_eq_true (by kernel_rfl))]; rfl
          have s2 : a.tmps.getD 2 undef = .pointer (some ⟨Bp, 0, none⟩) := by
            rw [Array.getD_eq_getD_getElem?, hL.out 2 (of_decide_eq_true (by kernel_rfl))]; rfl
          have s9 : a.tmps.getD 9 undef = I m := by
            rw [Array.getD_eq_getD_getElem?, hL.out 9 (of_decide_eq_true (by kernel_rfl))]; rfl
          obtain ⟨c0, c1, c2, hz⟩ := gD.three hT
          obtain ⟨⟨x0, x1, x2⟩, ⟨x3, x4, x5⟩, ⟨x6, x7, x8⟩, hz1⟩ := gP.nine hT
          clear hL
          match i, hi with
          | 0, hi =>
            obtain rfl := Option.some.inj hi
            refine .inl ⟨A3 d0 d1 d2, ?_, rfl⟩
            simp [execOp, go_sem, Act.eval, s1, c0, c1, c2]
          | 1, hi =>
            obtain rfl := Option.some.inj hi
            refine .inl ⟨I 1, ?_, rfl⟩
            simp [execOp, go_sem, Act.eval, s0]
          | 2, hi =>
            obtain rfl := Option.some.inj hi
            refine .inl ⟨I m, ?_, rfl⟩
            simp [execOp, go_sem, Act.eval, s9]
          | 3, hi =>
            obtain rfl := Option.some.inj hi
            refine .inl ⟨I 1, ?_, rfl⟩
            simp [execOp, go_sem, Act.eval, s0]
          | 4, hi =>
            obtain rfl := Option.some.inj hi
            refine .inl ⟨.pointer (some ⟨Bp, 0, none⟩), ?_, rfl⟩
            simp [execOp, go_sem, Act.eval, s2]
          | 5, hi =>
            obtain rfl := Option.some.inj hi
            have p0 : a.tmps.getD 35 undef = .pointer (some ⟨Bp, 0, none⟩) := hpre ⟨4, .data⟩ (by simp) rfl
            refine .inl ⟨.pointer (some ⟨Bp, 3, none⟩), ?_, rfl⟩
            simp [execOp, go_sem, Act.eval, p0]
          | 6, hi =>
            obtain rfl := Option.some.inj hi
            have p0 : a.tmps.getD 36 undef = .pointer (some ⟨Bp, 3, none⟩) := hpre ⟨5, .data⟩ (by simp) rfl
            have p1 : a.tmps.getD 34 undef = I 1 := hpre ⟨3, .data⟩ (by simp) rfl
            refine .inl ⟨.pointer (some ⟨Bp, 4, none⟩), ?_, rfl⟩
            simp [execOp, go_sem, Act.eval, p0, p1]
          | 7, hi =>
            obtain rfl := Option.some.inj hi
            have p0 : a.tmps.getD 37 undef = .pointer (some ⟨Bp, 4, none⟩) := hpre ⟨6, .data⟩ (by simp) rfl
            refine .inl ⟨I b.b, ?_, rfl⟩
            simp [execOp, go_sem, Act.eval, p0, x4]
          | 8, hi =>
            obtain rfl := Option.some.inj hi
            refine .inl ⟨I 1, ?_, rfl⟩
            simp [execOp, go_sem, Act.eval, s0]
          | 9, hi =>
            obtain rfl := Option.some.inj hi
            refine .inl ⟨.pointer (some ⟨Bp, 6, none⟩), ?_, rfl⟩
            simp [execOp, go_sem, Act.eval, s2]
          | 10, hi =>
            obtain rfl := Option.some.inj hi
            have p0 : a.tmps.getD 40 undef = .pointer (some ⟨Bp, 6, none⟩) := hpre ⟨9, .data⟩ (by simp) rfl
            have p1 : a.tmps.getD 39 undef = I 1 := hpre ⟨8, .data⟩ (by simp) rfl
            refine .inl ⟨.pointer (some ⟨Bp, 7, none⟩), ?_, rfl⟩
            simp [execOp, go_sem, Act.eval, p0, p1]
          | 11, hi =>
            obtain rfl := Option.some.inj hi
            have p0 : a.tmps.getD 41 undef = .pointer (some ⟨Bp, 7, none⟩) := hpre ⟨10, .data⟩ (by simp) rfl
            refine .inl ⟨.bool t1, ?_, rfl⟩
            simp [execOp, go_sem, Act.eval, p0, x7]
          | 12, hi =>
            obtain rfl := Option.some.inj hi
            have p0 : a.tmps.getD 31 undef = A3 d0 d1 d2 := hpre ⟨0, .data⟩ (by simp) rfl
            have p1 : a.tmps.getD 32 undef = I 1 := hpre ⟨1, .data⟩ (by simp) rfl
            have p2 : a.tmps.getD 33 undef = I m := hpre ⟨2, .data⟩ (by simp) rfl
            have p3 : a.tmps.getD 38 undef = I b.b := hpre ⟨7, .data⟩ (by simp) rfl
            have p4 : a.tmps.getD 42 undef = .bool t1 := hpre ⟨11, .data⟩ (by simp) rfl
            refine .inr ⟨72, #[A3 d0 d1 d2, I 1, I m, I b.b, .bool t1], ?_, ?_⟩
            · simp [go_sem, Act.eval, p0, p1, p2, p3, p4]
            · refine (HR2 w').mono ?_
              rintro e w'' ⟨u, rfl, hl, hB⟩
              exact ⟨_, rfl, hB, u, rfl, hl.weak hT.size⟩
          | 13, hi =>
            obtain rfl := Option.some.inj hi
            have p0 : ∃ u, a.tmps.getD 43 undef = .tuple #[u, I 0] ∧ Lst w' wr.heap.size u zs := hpre ⟨12, .data⟩ (by simp) rfl
            refine .inl ⟨a.tmps.getD 43 undef, ?_, p0⟩
            simp [execOp, go_sem, Act.eval]
          | 14, hi =>
            obtain rfl := Option.some.inj hi
            obtain ⟨u, p0, p1⟩ : ∃ u, a.tmps.getD 30 undef = .tuple #[u, I 0] ∧ Lst w' wr.heap.size u zs := hpre ⟨13, .data⟩ (by simp) rfl
            refine .inl ⟨u, ?_, p1⟩
            simp [execOp, go_sem, Act.eval, p0]
          | 15, hi =>
            obtain rfl := Option.some.inj hi
            obtain ⟨u, p0, p1⟩ : ∃ u, a.tmps.getD 30 undef = .tuple #[u, I 0] ∧ Lst w' wr.heap.size u zs := hpre ⟨13, .data⟩ (by simp) rfl
            refine .inl ⟨I 0, ?_, rfl⟩
            simp [execOp, go_sem, Act.eval, p0]
          | 16, hi =>
            obtain rfl := Option.some.inj hi
            have p0 : Lst w' wr.heap.size (a.tmps.getD 44 undef) zs := hpre ⟨14, .data⟩ (by simp) rfl
            refine .inl ⟨a.tmps.getD 44 undef, ?_, p0⟩
            simp [execOp, go_sem, Act.eval]
          | 17, hi =>
            obtain rfl := Option.some.inj hi
            have p0 : a.tmps.getD 45 undef = I 0 := hpre ⟨15, .data⟩ (by simp) rfl
            refine .inl ⟨I 0, ?_, rfl⟩
            simp [execOp, go_sem, Act.eval, p0]
          | n + 18, hi => simp at hi
        · intro vs w2 hT2 hall
          have hZ : Lst w2 wr.heap.size (vs 16) zs := hall 16 (of_decide_eq_true (by kernel_rfl))
          have h17 : vs 17 = I 0 := hall 17 (of_decide_eq_true (by kernel_rfl))
          clear hall
          simp only [List.length_cons, List.length_nil, Nat.zero_add, Nat.reduceAdd, List.range, List.range.loop, List.foldl_cons, List.foldl_nil, dstOf, List.getElem?_cons_zero, List.getElem?_cons_succ, Option.getD_some, Act.put, h17, List.setIfInBounds_toArray, List.set_cons_succ, List.set_cons_zero]
          clear h17
          generalize vs 16 = uz at *
          generalize vs 0 = y0
          generalize vs 1 = y1
          generalize vs 2 = y2
          generalize vs 3 = y3
          generalize vs 4 = y4
          generalize vs 5 = y5
          generalize vs 6 = y6
          generalize vs 7 = y7
          generalize vs 8 = y8
          generalize vs 9 = y9
          generalize vs 10 = y10
          generalize vs 11 = y11
          generalize vs 12 = y12
          generalize vs 13 = y13
          generalize vs 14 = y14
          generalize vs 15 = y15
          clear vs
          have hL2 := hLr.later hT2
          have hv2 := hvr.later hT2
          have hX2 := hX.later hT2
          have hB2 : Below Bl w w2 := hBl.trans (hT2.mono (Nat.le_of_lt hltr))
          have cL := hL2.cell 0
          have fL := hL2.frozen 0
          have hlt2 := hL2.lt
          simp at cL
          clear hT2 hLr hvr hX cXj
          go_wp2_with (at_builtin; refine wpList_catK (k := .slice (some ⟨g, 0, none⟩) X.length cX) rfl _ _ rfl rfl rfl hv2 hZ hX2 hBes hlong (by omega) hlt2 ?_; intro v3 w3 hv3 hX3 hBes3 hB3
                       obtain ⟨a3, c3, e3, hvw3⟩ := hv3.view; subst e3; clear hvw3; rw [List.length_append] at hv3 hBes3
                       have hL3 := hL2.below hB3 (Nat.lt_succ_self _)
                       have cL3 := hL3.cell 0
                       simp at cL3
                       have fL3 := hL3.frozen 0
                       clear cL fL hlt2)
          go_roundw
          case rel =>
            refine ⟨j + 1, _, by omega, by go_num, hL3.set 0 _, ?_, hX3.store (Nat.lt_succ_self _) _, hBes3, ?_⟩
            · have E : xs ++ (X.take (j + 1)).flatMap (fun m => cablesW d0 d1 d2 m 1 mo) = ys ++ zs := by rw [HTk.out, ← List.append_assoc, ← HYs.out]
              rw [E]
              exact hv3.store (Nat.lt_succ_self _) _
            · exact (hB2.trans (hB3.mono (Nat.le_succ _))).setCell (p := ⟨Bl, 0, none⟩) (Nat.le_refl _) _
          case measure => simp [RowKit.intOf]; omega
      · have e : j = X.length := by omega
        subst e
        rw [List.take_length, ← HCab.out] at hvr
        go_wp2
        go_ret
        first | exact ⟨_, rfl, hLr, hvr, hBl⟩ | exact ⟨rfl, _, hLr, hvr, hBl⟩

set_option maxRecDepth 100000 in
set_option maxHeartbeats 8000000 in
theorem take2 {d0 d1 d2 : Int} {b : Bx} {t0 t1 t2 : Bool} (w : World) (hm : mayD d0 d1 d2) (hp : mayP d0 d1 d2 b t0 t1 t2) {Bd Bp Bl : Nat} {v : Value} {xs : List Int}
    (hD : Blk w Bd 23 #[I d0, I d1, I d2]) (hP : Blk w Bp 30 (C9 b t0 t1 t2)) (hL : Blk w Bl 57 #[v]) (hDL : Bd < Bl) (hPL : Bp < Bl) (hv : Lst w (Bl + 1) v xs) (hl : xs.length ≤ 20000) :
    Calls Tryz.prog 70 #[I 2, .pointer (some ⟨Bd, 0, none⟩), .pointer (some ⟨Bp, 0, none⟩), .pointer (some ⟨Bl, 0, none⟩)] w fun e W' => ∃ v', e = .returned (I 0) ∧ Blk W' Bl 57 #[v'] ∧ Lst W' (Bl + 1) v' (xs ++ cabK d0 d1 d2 b t0 t1 t2 2) ∧ Below Bl w W' := by
  have hmx : Tryz.prog.follows .mixedOrders = true := by kernel_rfl
  have hlt := hL.lt
  have HFst : Hid (∀ w, Calls Tryz.prog 71 #[B6 b, I 2] w fun e W' => e = .returned (B6 ⟨b.x, b.y, b.z, b.a, b.b, 1⟩) ∧ Below w.heap.size w W') := fun w => firstP_calls b 2 w
  have HNod : Hid (∀ w, Calls Tryz.prog 48 #[A3 d0 d1 d2, B6 ⟨b.x, b.y, b.z, b.a, b.b, 1⟩] w fun e W' => ∃ v, e = .returned (.tuple #[v, I 0]) ∧ Lst W' w.heap.size v (nodesB d0 d1 d2 (upB b 1 2)) ∧ Below w.heap.size w W') := fun w => bnodes_ok w hm (first_may hm hp.1 2)
  have HRun : Hid (∀ (m : Int) w, 0 ≤ m ∧ m < d0 * d1 * d2 → Calls Tryz.prog 72 #[A3 d0 d1 d2, I 2, I m, I b.c, .bool t2] w fun e W' => ∃ v, e = .returned (.tuple #[v, I 0]) ∧ Lst W' w.heap.size v (cablesW d0 d1 d2 m 2 (mostW (dimAt d0 d1 d2 2) (sAt b 2) (tK t0 t1 t2 2)).toNat) ∧ Below w.heap.size w W') := fun m w hn => wrun_yes (k := 2) t2 w hm hn rfl (mayB_at hp.1 2).1
  have HLen : Hid ((cabK d0 d1 d2 b t0 t1 t2 2).length ≤ 4096) := cabK_len hm hp 2
  have HMem : Hid (∀ j, j < (nodesB d0 d1 d2 (upB b 1 2)).length → 0 ≤ (nodesB d0 d1 d2 (upB b 1 2)).getD j 0 ∧ (nodesB d0 d1 d2 (upB b 1 2)).getD j 0 < d0 * d1 * d2) := fun j hj => by
    rw [List.getD_eq_getElem?_getD, List.getElem?_eq_getElem hj]
    exact (nodesP_mem.1 (List.getElem_mem hj)).1
  have HC5 : Hid (∀ m, 0 ≤ m ∧ m < d0 * d1 * d2 → (cablesW d0 d1 d2 m 2 (mostW (dimAt d0 d1 d2 2) (sAt b 2) (tK t0 t1 t2 2)).toNat).length ≤ 4096) := fun m hn => by
    have hd := dimAt_ok hm 2
    unfold okD at hd
    rw [most_run hp 2]
    have hz := runS_bd (r := dimAt d0 d1 d2 2) (s := sAt b 2) (tK t0 t1 t2 2) (mayB_at hp.1 2).1
    rw [cables_len hm hn 2 (by omega)]
    split <;> omega
  have hXl := nodesB_len hm (upB b 1 2)
  have HCab : Hid (cabK d0 d1 d2 b t0 t1 t2 2 = (nodesB d0 d1 d2 (upB b 1 2)).flatMap fun m => cablesW d0 d1 d2 m 2 (mostW (dimAt d0 d1 d2 2) (sAt b 2) (tK t0 t1 t2 2)).toNat) := rfl
  generalize cabK d0 d1 d2 b t0 t1 t2 2 = Cb at *
  generalize nodesB d0 d1 d2 (upB b 1 2) = X at *
  generalize (mostW (dimAt d0 d1 d2 2) (sAt b 2) (tK t0 t1 t2 2)).toNat = mo at *
  clear hm hp
  go_enter Tryz.func70, Tryz.ntmps70
  go_wp2_with fail
  refine wp_region_loud (w0 := w) (wordA d0 d1 d2 b ⟨b.x, b.y, b.z, b.a, b.b, 1⟩ 2 Bp w.heap.size X) hmx (by kernel_rfl) wordA_later ?_ ?_
  · intro i o hi a w' hT hL hpre
    have s0 : a.tmps.getD 0 undef = I 2 := by
      rw [Array.getD_eq_getD_getElem?, hL.out 0 (of_decide_eq_true (by kernel_rfl))]; rfl
    have s1 : a.tmps.getD 1 undef = .pointer (some ⟨Bd, 0, none⟩) := by
      rw [Array.getD_eq_getD_getElem?, hL.out 1 (of_decide_eq_true (by kernel_rfl))]; rfl
    have s2 : a.tmps.getD 2 undef = .pointer (some ⟨Bp, 0, none⟩) := by
      rw [Array.getD_eq_getD_getElem?, hL.out 2 (of_decide_eq_true (by kernel_rfl))]; rfl
    obtain ⟨c0, c1, c2, hz⟩ := hD.three hT
    obtain ⟨⟨x0, x1, x2⟩, ⟨x3, x4, x5⟩, _, hz1⟩ := hP.nine hT
    clear hL
    match i, hi with
    | 0, hi =>
      obtain rfl := Option.some.inj hi
      refine .inl ⟨A3 d0 d1 d2, ?_, rfl⟩
      simp [execOp, go_sem, Act.eval, s1, c0, c1, c2]
    | 1, hi =>
      obtain rfl := Option.some.inj hi
      refine .inl ⟨.pointer (some ⟨Bp, 0, none⟩), ?_, rfl⟩
      simp [execOp, go_sem, Act.eval, s2]
    | 2, hi =>
      obtain rfl := Option.some.inj hi
      have p0 : a.tmps.getD 14 undef = .pointer (some ⟨Bp, 0, none⟩) := hpre ⟨1, .data⟩ (by simp) rfl
      refine .inl ⟨B6 b, ?_, rfl⟩
      simp [execOp, go_sem, Act.eval, p0, x0, x1, x2, x3, x4, x5]
    | 3, hi =>
      obtain rfl := Option.some.inj hi
      refine .inl ⟨I 2, ?_, rfl⟩
      simp [execOp, go_sem, Act.eval, s0]
    | 4, hi =>
      obtain rfl := Option.some.inj hi
      have p0 : a.tmps.getD 15 undef = B6 b := hpre ⟨2, .data⟩ (by simp) rfl
      have p1 : a.tmps.getD 16 undef = I 2 := hpre ⟨3, .data⟩ (by simp) rfl
      refine .inr ⟨71, #[B6 b, I 2], ?_, ?_⟩
      · simp [go_sem, Act.eval, p0, p1]
      · refine (HFst.out w').mono ?_
        rintro e w'' ⟨rfl, hB⟩
        exact ⟨_, rfl, hB, rfl⟩
    | 5, hi =>
      obtain rfl := Option.some.inj hi
      have p0 : a.tmps.getD 13 undef = A3 d0 d1 d2 := hpre ⟨0, .data⟩ (by simp) rfl
      have p1 : a.tmps.getD 17 undef = B6 ⟨b.x, b.y, b.z, b.a, b.b, 1⟩ := hpre ⟨4, .data⟩ (by simp) rfl
      refine .inr ⟨48, #[A3 d0 d1 d2, B6 ⟨b.x, b.y, b.z, b.a, b.b, 1⟩], ?_, ?_⟩
      · simp [go_sem, Act.eval, p0, p1]
      · refine (HNod.out w').mono ?_
        rintro e w'' ⟨u, rfl, hl, hB⟩
        exact ⟨_, rfl, hB, u, rfl, hl.weak hT.size⟩
    | 6, hi =>
      obtain rfl := Option.some.inj hi
      have p0 : ∃ u, a.tmps.getD 18 undef = .tuple #[u, I 0] ∧ Lst w' w.heap.size u X := hpre ⟨5, .data⟩ (by simp) rfl
      refine .inl ⟨a.tmps.getD 18 undef, ?_, p0⟩
      simp [execOp, go_sem, Act.eval]
    | 7, hi =>
      obtain rfl := Option.some.inj hi
      obtain ⟨u, p0, p1⟩ : ∃ u, a.tmps.getD 12 undef = .tuple #[u, I 0] ∧ Lst w' w.heap.size u X := hpre ⟨6, .data⟩ (by simp) rfl
      refine .inl ⟨u, ?_, p1⟩
      simp [execOp, go_sem, Act.eval, p0]
    | 8, hi =>
      obtain rfl := Option.some.inj hi
      obtain ⟨u, p0, p1⟩ : ∃ u, a.tmps.getD 12 undef = .tuple #[u, I 0] ∧ Lst w' w.heap.size u X := hpre ⟨6, .data⟩ (by simp) rfl
      refine .inl ⟨I 0, ?_, rfl⟩
      simp [execOp, go_sem, Act.eval, p0]
    | 9, hi =>
      obtain rfl := Option.some.inj hi
      have p0 : Lst w' w.heap.size (a.tmps.getD 19 undef) X := hpre ⟨7, .data⟩ (by simp) rfl
      refine .inl ⟨a.tmps.getD 19 undef, ?_, p0⟩
      simp [execOp, go_sem, Act.eval]
    | 10, hi =>
      obtain rfl := Option.some.inj hi
      have p0 : a.tmps.getD 20 undef = I 0 := hpre ⟨8, .data⟩ (by simp) rfl
      refine .inl ⟨I 0, ?_, rfl⟩
      simp [execOp, go_sem, Act.eval, p0]
    | n + 11, hi => simp at hi
  · intro vs w1 hT1 hall
    have hX0 : Lst w1 w.heap.size (vs 9) X := hall 9 (of_decide_eq_true (by kernel_rfl))
    have h10 : vs 10 = I 0 := hall 10 (of_decide_eq_true (by kernel_rfl))
    clear hall
    have hBes : Beside (vs 9) v := Beside.of_old hX0 hv (Nat.le_refl _)
    have hX := hX0.weak (base' := Bl + 1) hlt
    clear hX0
    obtain ⟨aX, cX, eX, hvw0⟩ := hX.view
    clear hvw0
    simp only [List.length_cons, List.length_nil, Nat.zero_add, Nat.reduceAdd, List.range, List.range.loop, List.foldl_cons, List.foldl_nil, dstOf, List.getElem?_cons_zero, List.getElem?_cons_succ, Option.getD_some, Act.put, h10, eX, List.setIfInBounds_toArray, List.set_cons_succ, List.set_cons_zero]
    rw [eX] at hX hBes
    clear eX h10
    generalize vs 0 = v0
    generalize vs 1 = v1
    generalize vs 2 = v2
    generalize vs 3 = v3
    generalize vs 4 = v4
    generalize vs 5 = v5
    generalize vs 6 = v6
    generalize vs 7 = v7
    generalize vs 8 = v8
    clear vs
    have hL1 := hL.later hT1
    have hv1 := hv.later hT1
    have hBl : Below Bl w w1 := hT1.mono (Nat.le_of_lt hlt)
    clear hT1
    go_wp2_with fail
    go_loopw [26] (fun i wr => ∃ (j : Nat) (u : Value), j ≤ X.length ∧ i = .int .i64 j ∧ Blk wr Bl 57 #[u] ∧ Lst wr (Bl + 1) u (xs ++ (X.take j).flatMap fun m => cablesW d0 d1 d2 m 2 mo) ∧ Lst wr (Bl + 1) (.slice aX X.length cX) X ∧ Beside (.slice aX X.length cX) u ∧ Below Bl w wr) (fun i _ => X.length - (RowKit.intOf i).toNat)
    case atStart => exact ⟨0, v, by omega, rfl, hL1, by simpa using hv1, hX, hBes, hBl⟩
    case round =>
      clear hL1 hv1 hBl hX hBes
      obtain ⟨j, u, hj, rfl, hLr, hvr, hX, hBes, hBl⟩ := hrel
      have gD := hD.below hBl hDL
      have gP := hP.below hBl hPL
      have hltr := hLr.lt
      by_cases hlt' : (j : Int) < (X.length : Int)
      · have hjl : j < X.length := by omega
        have hmem := HMem.out j hjl
        have HR2 := fun w => HRun.out (X.getD j 0) w hmem
        have hc4 := HC5.out _ hmem
        have HTk : Hid ((X.take (j + 1)).flatMap (fun m => cablesW d0 d1 d2 m 2 mo) = (X.take j).flatMap (fun m => cablesW d0 d1 d2 m 2 mo) ++ cablesW d0 d1 d2 (X.getD j 0) 2 mo) := by
          show _ = _
          rw [List.take_succ_eq_append_getElem hjl, List.flatMap_append, List.getD_eq_getElem?_getD, List.getElem?_eq_getElem hjl]
          simp
        have hlong : (xs ++ (X.take j).flatMap fun m => cablesW d0 d1 d2 m 2 mo).length ≤ 100000 := by
          have h1 : ((X.take j).flatMap fun m => cablesW d0 d1 d2 m 2 mo).length ≤ Cb.length := by
            rw [HCab.out]
            have := congrArg (List.flatMap fun m => cablesW d0 d1 d2 m 2 mo) (List.take_append_drop j X)
            rw [← this, List.flatMap_append, List.length_append]
            omega
          have h2 := HLen.out
          rw [List.length_append]
          omega
        obtain ⟨ao, cap, e, hvw⟩ := hX.view
        simp only [Value.slice.injEq] at e
        obtain ⟨e1, -, -⟩ := e
        subst e1
        obtain ⟨g, cur, rfl, hg, hc⟩ := hvw j hjl
        have cXj := hg.cell j
        rw [hc] at cXj
        clear hg hc hvw
        obtain ⟨ys, hys⟩ : ∃ ys, ys = xs ++ (X.take j).flatMap fun m => cablesW d0 d1 d2 m 2 mo := ⟨_, rfl⟩
        rw [← hys] at hvr hlong
        have HYs : Hid (ys = xs ++ (X.take j).flatMap fun m => cablesW d0 d1 d2 m 2 mo) := hys
        clear hys
        generalize cablesW d0 d1 d2 (X.getD j 0) 2 mo = zs at *
        generalize X.getD j 0 = m at *
        go_wp2_with fail
        refine wp_region_loud (w0 := wr) (wordR d0 d1 d2 m 2 b.c t2 Bp 5 8 wr.heap.size zs) hmx (by kernel_rfl) wordR_later ?_ ?_
        · intro i o hi a w' hT hL hpre
          have s0 : a.tmps.getD 0 undef = I 2 := by
            rw [Array.getD_eq_getD_getElem?, hL.out 0 (of_decide_eq_true (by kernel_rfl))]; rfl
          have s1 : a.tmps.getD 1 undef = .pointer (some ⟨Bd, 0, none⟩) := by
            rw [Array.getD_eq_getD_getElem?, hL.out 1 (of_decide_eq_true (by kernel_rfl))]; rfl
          have s2 : a.tmps.getD 2 undef = .pointer (some ⟨Bp, 0, none⟩) := by
            rw [Array.getD_eq_getD_getElem?, hL.out 2 (of_decide_eq_true (by kernel_rfl))]; rfl
          have s9 : a.tmps.getD 9 undef = I m := by
            rw [Array.getD_eq_getD_getElem?, hL.out 9 (of_decide_eq_true (by kernel_rfl))]; rfl
          obtain ⟨c0, c1, c2, hz⟩ := gD.three hT
          obtain ⟨⟨x0, x1, x2⟩, ⟨x3, x4, x5⟩, ⟨x6, x7, x8⟩, hz1⟩ := gP.nine hT
          clear hL
          match i, hi with
          | 0, hi =>
            obtain rfl := Option.some.inj hi
            refine .inl ⟨A3 d0 d1 d2, ?_, rfl⟩
            simp [execOp, go_sem, Act.eval, s1, c0, c1, c2]
          | 1, hi =>
            obtain rfl := Option.some.inj hi
            refine .inl ⟨I 2, ?_, rfl⟩
            simp [execOp, go_sem, Act.eval, s0]
          | 2, hi =>
            obtain rfl := Option.some.inj hi
            refine .inl ⟨I m, ?_, rfl⟩
            simp [execOp, go_sem, Act.eval, s9]
          | 3, hi =>
            obtain rfl := Option.some.inj hi
            refine .inl ⟨I 2, ?_, rfl⟩
            simp [execOp, go_sem, Act.eval, s0]
          | 4, hi =>
            obtain rfl := Option.some.inj hi
            refine .inl ⟨.pointer (some ⟨Bp, 0, none⟩), ?_, rfl⟩
            simp [execOp, go_sem, Act.eval, s2]
          | 5, hi =>
            obtain rfl := Option.some.inj hi
            have p0 : a.tmps.getD 35 undef = .pointer (some ⟨Bp, 0, none⟩) := hpre ⟨4, .data⟩ (by simp) rfl
            refine .inl ⟨.pointer (some ⟨Bp, 3, none⟩), ?_, rfl⟩
            simp [execOp, go_sem, Act.eval, p0]
          | 6, hi =>
            obtain rfl := Option.some.inj hi
            have p0 : a.tmps.getD 36 undef = .pointer (some ⟨Bp, 3, none⟩) := hpre ⟨5, .data⟩ (by simp) rfl
            have p1 : a.tmps.getD 34 undef = I 2 := hpre ⟨3, .data⟩ (by simp) rfl
            refine .inl ⟨.pointer (some ⟨Bp, 5, none⟩), ?_, rfl⟩
            simp [execOp, go_sem, Act.eval, p0, p1]
          | 7, hi =>
            obtain rfl := Option.some.inj hi
            have p0 : a.tmps.getD 37 undef = .pointer (some ⟨Bp, 5, none⟩) := hpre ⟨6, .data⟩ (by simp) rfl
            refine .inl ⟨I b.c, ?_, rfl⟩
            simp [execOp, go_sem, Act.eval, p0, x5]
          | 8, hi =>
            obtain rfl := Option.some.inj hi
            refine .inl ⟨I 2, ?_, rfl⟩
            simp [execOp, go_sem, Act.eval, s0]
          | 9, hi =>
            obtain rfl := Option.some.inj hi
            refine .inl ⟨.pointer (some ⟨Bp, 6, none⟩), ?_, rfl⟩
            simp [execOp, go_sem, Act.eval, s2]
          | 10, hi =>
            obtain rfl := Option.some.inj hi
            have p0 : a.tmps.getD 40 undef = .pointer (some ⟨Bp, 6, none⟩) := hpre ⟨9, .data⟩ (by simp) rfl
            have p1 : a.tmps.getD 39 undef = I 2 := hpre ⟨8, .data⟩ (by simp) rfl
            refine .inl ⟨.pointer (some ⟨Bp, 8, none⟩), ?_, rfl⟩
            simp [execOp, go_sem, Act.eval, p0, p1]
          | 11, hi =>
            obtain rfl := Option.some.inj hi
            have p0 : a.tmps.getD 41 undef = .pointer (some ⟨Bp, 8, none⟩) := hpre ⟨10, .data⟩ (by simp) rfl
            refine .inl ⟨.bool t2, ?_, rfl⟩
            simp [execOp, go_sem, Act.eval, p0, x8]
          | 12, hi =>
            obtain rfl := Option.some.inj hi
            have p0 : a.tmps.getD 31 undef = A3 d0 d1 d2 := hpre ⟨0, .data⟩ (by simp) rfl
            have p1 : a.tmps.getD 32 undef = I 2 := hpre ⟨1, .data⟩ (by simp) rfl
            have p2 : a.tmps.getD 33 undef = I m := hpre ⟨2, .data⟩ (by simp) rfl
            have p3 : a.tmps.getD 38 undef = I b.c := hpre ⟨7, .data⟩ (by simp) rfl
            have p4 : a.tmps.getD 42 undef = .bool t2 := hpre ⟨11, .data⟩ (by simp) rfl
            refine .inr ⟨72, #[A3 d0 d1 d2, I 2, I m, I b.c, .bool t2], ?_, ?_⟩
            · simp [go_sem, Act.eval, p0, p1, p2, p3, p4]
            · refine (HR2 w').mono ?_
              rintro e w'' ⟨u, rfl, hl, hB⟩
              exact ⟨_, rfl, hB, u, rfl, hl.weak hT.size⟩
          | 13, hi =>
            obtain rfl := Option.some.inj hi
            have p0 : ∃ u, a.tmps.getD 43 undef = .tuple #[u, I 0] ∧ Lst w' wr.heap.size u zs := hpre ⟨12, .data⟩ (by simp) rfl
            refine .inl ⟨a.tmps.getD 43 undef, ?_, p0⟩
            simp [execOp, go_sem, Act.eval]
          | 14, hi =>
            obtain rfl := Option.some.inj hi
            obtain ⟨u, p0, p1⟩ : ∃ u, a.tmps.getD 30 undef = .tuple #[u, I 0] ∧ Lst w' wr.heap.size u zs := hpre ⟨13, .data⟩ (by simp) rfl
            refine .inl ⟨u, ?_, p1⟩
            simp [execOp, go_sem, Act.eval, p0]
          | 15, hi =>
            obtain rfl := Option.some.inj hi
            obtain ⟨u, p0, p1⟩ : ∃ u, a.tmps.getD 30 undef = .tuple #[u, I 0] ∧ Lst w' wr.heap.size u zs := hpre ⟨13, .data⟩ (by simp) rfl
            refine .inl ⟨I 0, ?_, rfl⟩
            simp [execOp, go_sem, Act.eval, p0]
          | 16, hi =>
            obtain rfl := Option.some.inj hi
            have p0 : Lst w' wr.heap.size (a.tmps.getD 44 undef) zs := hpre ⟨14, .data⟩ (by simp) rfl
            refine .inl ⟨a.tmps.getD 44 undef, ?_, p0⟩
            simp [execOp, go_sem, Act.eval]
          | 17, hi =>
            obtain rfl := Option.some.inj hi
            have p0 : a.tmps.getD 45 undef = I 0 := hpre ⟨15, .data⟩ (by simp) rfl
            refine .inl ⟨I 0, ?_, rfl⟩
            simp [execOp, go_sem, Act.eval, p0]
          | n + 18, hi => simp at hi
        · intro vs w2 hT2 hall
          have hZ : Lst w2 wr.heap.size (vs 16) zs := hall 16 (of_decide_eq_true (by kernel_rfl))
          have h17 : vs 17 = I 0 := hall 17 (of_decide_eq_true (by kernel_rfl))
          clear hall
          simp only [List.length_cons, List.length_nil, Nat.zero_add, Nat.reduceAdd, List.range, List.range.loop, List.foldl_cons, List.foldl_nil, dstOf, List.getElem?_cons_zero, List.getElem?_cons_succ, Option.getD_some, Act.put, h17, List.setIfInBounds_toArray, List.set_cons_succ, List.set_cons_zero]
          clear h17
          generalize vs 16 = uz at *
          generalize vs 0 = y0
          generalize vs 1 = y1
          generalize vs 2 = y2
          generalize vs 3 = y3
          generalize vs 4 = y4
          generalize vs 5 = y5
          generalize vs 6 = y6
          generalize vs 7 = y7
          generalize vs 8 = y8
          generalize vs 9 = y9
          generalize vs 10 = y10
          generalize vs 11 = y11
          generalize vs 12 = y12
          generalize vs 13 = y13
          generalize vs 14 = y14
          generalize vs 15 = y15
          clear vs
          have hL2 := hLr.later hT2
          have hv2 := hvr.later hT2
          have hX2 := hX.later hT2
          have hB2 : Below Bl w w2 := hBl.trans (hT2.mono (Nat.le_of_lt hltr))
          have cL := hL2.cell 0
          have fL := hL2.frozen 0
          have hlt2 := hL2.lt
          simp at cL
          clear hT2 hLr hvr hX cXj
          go_wp2_with (at_builtin; refine wpList_catK (k := .slice (some ⟨g, 0, none⟩) X.length cX) rfl _ _ rfl rfl rfl hv2 hZ hX2 hBes hlong (by omega) hlt2 ?_; intro v3 w3 hv3 hX3 hBes3 hB3
                       obtain ⟨a3, c3, e3, hvw3⟩ := hv3.view; subst e3; clear hvw3; rw [List.length_append] at hv3 hBes3
                       have hL3 := hL2.below hB3 (Nat.lt_succ_self _)
                       have cL3 := hL3.cell 0
                       simp at cL3
                       have fL3 := hL3.frozen 0
                       clear cL fL hlt2)
          go_roundw
          case rel =>
            refine ⟨j + 1, _, by omega, by go_num, hL3.set 0 _, ?_, hX3.store (Nat.lt_succ_self _) _, hBes3, ?_⟩
            · have E : xs ++ (X.take (j + 1)).flatMap (fun m => cablesW d0 d1 d2 m 2 mo) = ys ++ zs := by rw [HTk.out, ← List.append_assoc, ← HYs.out]
              rw [E]
              exact hv3.store (Nat.lt_succ_self _) _
            · exact (hB2.trans (hB3.mono (Nat.le_succ _))).setCell (p := ⟨Bl, 0, none⟩) (Nat.le_refl _) _
          case measure => simp [RowKit.intOf]; omega
      · have e : j = X.length := by omega
        subst e
        rw [List.take_length, ← HCab.out] at hvr
        go_wp2
        go_ret
        first | exact ⟨_, rfl, hLr, hvr, hBl⟩ | exact ⟨rfl, _, hLr, hvr, hBl⟩

end Go.Proofs.YtbedhpooeabehaaGreatDoor

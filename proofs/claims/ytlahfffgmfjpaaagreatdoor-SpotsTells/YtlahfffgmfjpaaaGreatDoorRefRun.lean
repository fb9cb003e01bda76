/-
  What the document's own answer for layer 5 (tidehallref05) gives: Line, Took, Run: the cables of a line, and those that a run takes, rising, in new memory.
-/
import Derived.Test.YtlahfffgmfjpaaaGreatDoorPart34
import Derived.Test.YtlahfffgmfjpaaaGreatDoorPart10
namespace Go.Proofs.YtlahfffgmfjpaaaGreatDoor
open Go Go.RowKit Go.Shelf

attribute [local go_sem] Oper.semAt_some ext_const

/-- What each operation of the statement that hands a line's cables back keeps. -/
def wordV (d0 d1 d2 m axis dim : Int) (Bn off base : Nat) (X : List Int) (i : Nat) (v : Value) (w : World) : Prop :=
  match i with
  | 0 => v = A3 d0 d1 d2
  | 1 => v = I axis
  | 2 => v = I m
  | 3 => v = I axis
  | 4 => v = .pointer (some ⟨Bn, off, none⟩)
  | 5 => v = I dim
  | 6 => Lst w base v X
  | 7 => Lst w base v X
  | 8 => v = I 0
  | _ => False
theorem wordV_later {d0 d1 d2 m axis dim : Int} {Bn off base : Nat} {X : List Int} (i : Nat) (v : Value) (w w' : World) (h : wordV d0 d1 d2 m axis dim Bn off base X i v w) (hB : Below w.heap.size w w') : wordV d0 d1 d2 m axis dim Bn off base X i v w' := by
  match i, h with
  | 0, h => exact h
  | 1, h => exact h
  | 2, h => exact h
  | 3, h => exact h
  | 4, h => exact h
  | 5, h => exact h
  | 6, h => exact h.later hB
  | 7, h => exact h.later hB
  | 8, h => exact h
  | n + 9, h => exact h.elim

set_option maxRecDepth 100000 in
set_option maxHeartbeats 4000000 in
theorem took_calls {d0 d1 d2 axis m long : Int} (torus : Bool) (w : World) (hm : mayD d0 d1 d2) (hn : 0 ≤ m ∧ m < d0 * d1 * d2) {k : Fin 3} (hk : axis = axI k) (hl : 1 ≤ long ∧ long ≤ dimAt d0 d1 d2 k) :
    Calls Tryz.prog 121 #[A3 d0 d1 d2, I axis, I m, I long, .bool torus] w fun e W' => ∃ v, e = .returned v ∧ Lst W' w.heap.size v (cablesW d0 d1 d2 m k (mostW (dimAt d0 d1 d2 k) long torus).toNat) ∧ Below w.heap.size w W' := by
  have hmx : Tryz.prog.follows .mixedOrders = true := by kernel_rfl
  subst hk
  have hok := dimAt_ok hm k
  unfold okD at hok
  by_cases h1 : long = 1
  · subst h1
    have e0 : cablesW d0 d1 d2 m k (mostW (dimAt d0 d1 d2 k) 1 torus).toNat = [] := by
      have : mostW (dimAt d0 d1 d2 k) 1 torus = 0 := by unfold mostW; simp
      rw [this]
      simp [cablesW, nodesW, amongW]
    rw [e0]
    have b0 := (Below.refl w.heap.size w).alloc (Nat.le_refl _) (.cells #[I d0, I d1, I d2] 23)
    clear hn hl hok e0
    go_enter Tryz.func121, Tryz.ntmps121
    go_wp2
    go_ret
    exact ⟨_, rfl, Lst.nil _ _, b0⟩
  · have h2 : (long == 1) = false := by simp; omega
    have hmb : 0 ≤ mostW (dimAt d0 d1 d2 k) long torus ∧ mostW (dimAt d0 d1 d2 k) long torus ≤ 16 := by unfold mostW; split <;> omega
    have HT : Hid (∀ w, Calls Tryz.prog 128 #[A3 d0 d1 d2, I (axI k), I m, I (mostW (dimAt d0 d1 d2 k) long torus)] w fun e W' => ∃ u, e = .returned u ∧ Lst W' w.heap.size u (cablesW d0 d1 d2 m k (mostW (dimAt d0 d1 d2 k) long torus).toNat) ∧ Below w.heap.size w W') := fun w => taken_any w hm hn rfl hmb
    have hcase : (torus = true ∧ mostW (dimAt d0 d1 d2 k) long torus = dimAt d0 d1 d2 k) ∨ (torus = false ∧ mostW (dimAt d0 d1 d2 k) long torus = long - 1) := by
      unfold mostW
      cases torus
      · exact .inr ⟨rfl, by simp⟩
      · exact .inl ⟨rfl, by rw [if_pos ⟨rfl, by omega⟩]⟩
    generalize mostW (dimAt d0 d1 d2 k) long torus = z at *
    generalize cablesW d0 d1 d2 m k z.toNat = X at *
    clear hn hmb h1
    obtain ⟨hl1, hl2⟩ := hl
    have g0 := Blk.new w 23 #[I d0, I d1, I d2]
    have hB1 := (Below.refl w.heap.size w).alloc (Nat.le_refl _) (.cells #[I d0, I d1, I d2] 23)
    rcases hcase with ⟨rfl, rfl⟩ | ⟨rfl, rfl⟩
    · rcases fin3 k with rfl | rfl | rfl
      · simp only [axI, dimAt] at *
        go_enter Tryz.func121, Tryz.ntmps121
        go_wp2_with fail
        generalize w.alloc (.cells #[I d0, I d1, I d2] 23) = W1 at *
        refine wp_region_loud (w0 := W1) (wordV d0 d1 d2 m 0 d0 w.heap.size 0 W1.heap.size X) hmx (by kernel_rfl) wordV_later ?_ ?_
        · intro i o hi a w' hT hL hpre
          have t1 : a.tmps.getD 1 undef = I 0 := by
            rw [Array.getD_eq_getD_getElem?, hL.out 1 (of_decide_eq_true (by kernel_rfl))]; rfl
          have t2 : a.tmps.getD 2 undef = I m := by
            rw [Array.getD_eq_getD_getElem?, hL.out 2 (of_decide_eq_true (by kernel_rfl))]; rfl
          have t3 : a.tmps.getD 5 undef = .pointer (some ⟨w.heap.size, 0, none⟩) := by
            rw [Array.getD_eq_getD_getElem?, hL.out 5 (of_decide_eq_true (by kernel_rfl))]; rfl
          obtain ⟨c0, c1, c2, hz⟩ := g0.three hT
          clear hL
          match i, hi with
          | 0, hi =>
            obtain rfl := Option.some.inj hi
            refine .inl ⟨A3 d0 d1 d2, ?_, rfl⟩
            simp [execOp, go_sem, Act.eval, t3, c0, c1, c2]
          | 1, hi =>
            obtain rfl := Option.some.inj hi
            refine .inl ⟨I 0, ?_, rfl⟩
            simp [execOp, go_sem, Act.eval, t1]
          | 2, hi =>
            obtain rfl := Option.some.inj hi
            refine .inl ⟨I m, ?_, rfl⟩
            simp [execOp, go_sem, Act.eval, t2]
          | 3, hi =>
            obtain rfl := Option.some.inj hi
            refine .inl ⟨I 0, ?_, rfl⟩
            simp [execOp, go_sem, Act.eval, t1]
          | 4, hi =>
            obtain rfl := Option.some.inj hi
            have p0 : a.tmps.getD 17 undef = I 0 := hpre ⟨3, .data⟩ (by simp) rfl
            refine .inl ⟨.pointer (some ⟨w.heap.size, 0, none⟩), ?_, rfl⟩
            simp [execOp, go_sem, Act.eval, t3, p0]
          | 5, hi =>
            obtain rfl := Option.some.inj hi
            have p0 : a.tmps.getD 18 undef = .pointer (some ⟨w.heap.size, 0, none⟩) := hpre ⟨4, .data⟩ (by simp) rfl
            refine .inl ⟨I d0, ?_, rfl⟩
            simp [execOp, go_sem, Act.eval, p0, c0]
          | 6, hi =>
            obtain rfl := Option.some.inj hi
            have p0 : a.tmps.getD 14 undef = A3 d0 d1 d2 := hpre ⟨0, .data⟩ (by simp) rfl
            have p1 : a.tmps.getD 15 undef = I 0 := hpre ⟨1, .data⟩ (by simp) rfl
            have p2 : a.tmps.getD 16 undef = I m := hpre ⟨2, .data⟩ (by simp) rfl
            have p5 : a.tmps.getD 19 undef = I d0 := hpre ⟨5, .data⟩ (by simp) rfl
            refine .inr ⟨128, #[A3 d0 d1 d2, I 0, I m, I d0], ?_, ?_⟩
            · simp [go_sem, Act.eval, p0, p1, p2, p5]
            · refine (HT.out w').mono ?_
              rintro e w'' ⟨v, rfl, hl, hB⟩
              exact ⟨_, rfl, hB, hl.weak hT.size⟩
          | 7, hi =>
            obtain rfl := Option.some.inj hi
            have p0 : Lst w' W1.heap.size (a.tmps.getD 20 undef) X := hpre ⟨6, .data⟩ (by simp) rfl
            refine .inl ⟨a.tmps.getD 20 undef, ?_, p0⟩
            simp [execOp, go_sem, Act.eval]
          | n + 8, hi => simp at hi
        · intro v w' hT hall
          have hX : Lst w' W1.heap.size (v 7) X := hall 7 (of_decide_eq_true (by kernel_rfl))
          clear hall
          simp only [List.length_cons, List.length_nil, Nat.zero_add, Nat.reduceAdd, List.range, List.range.loop, List.foldl_cons, List.foldl_nil, dstOf, List.getElem?_cons_zero, List.getElem?_cons_succ, Option.getD_some, Act.put, List.setIfInBounds_toArray, List.set_cons_succ, List.set_cons_zero]
          go_wp2
          go_ret
          exact ⟨_, rfl, hX.weak hB1.size, then_below hB1 hT⟩
      · simp only [axI, dimAt] at *
        go_enter Tryz.func121, Tryz.ntmps121
        go_wp2_with fail
        generalize w.alloc (.cells #[I d0, I d1, I d2] 23) = W1 at *
        refine wp_region_loud (w0 := W1) (wordV d0 d1 d2 m 1 d1 w.heap.size 1 W1.heap.size X) hmx (by kernel_rfl) wordV_later ?_ ?_
        · intro i o hi a w' hT hL hpre
          have t1 : a.tmps.getD 1 undef = I 1 := by
            rw [Array.getD_eq_getD_getElem?, hL.out 1 (of_decide_eq_true (by kernel_rfl))]; rfl
          have t2 : a.tmps.getD 2 undef = I m := by
            rw [Array.getD_eq_getD_getElem?, hL.out 2 (of_decide_eq_true (by kernel_rfl))]; rfl
          have t3 : a.tmps.getD 5 undef = .pointer (some ⟨w.heap.size, 0, none⟩) := by
            rw [Array.getD_eq_getD_getElem?, hL.out 5 (of_decide_eq_true (by kernel_rfl))]; rfl
          obtain ⟨c0, c1, c2, hz⟩ := g0.three hT
          clear hL
          match i, hi with
          | 0, hi =>
            obtain rfl := Option.some.inj hi
            refine .inl ⟨A3 d0 d1 d2, ?_, rfl⟩
            simp [execOp, go_sem, Act.eval, t3, c0, c1, c2]
          | 1, hi =>
            obtain rfl := Option.some.inj hi
            refine .inl ⟨I 1, ?_, rfl⟩
            simp [execOp, go_sem, Act.eval, t1]
          | 2, hi =>
            obtain rfl := Option.some.inj hi
            refine .inl ⟨I m, ?_, rfl⟩
            simp [execOp, go_sem, Act.eval, t2]
          | 3, hi =>
            obtain rfl := Option.some.inj hi
            refine .inl ⟨I 1, ?_, rfl⟩
            simp [execOp, go_sem, Act.eval, t1]
          | 4, hi =>
            obtain rfl := Option.some.inj hi
            have p0 : a.tmps.getD 17 undef = I 1 := hpre ⟨3, .data⟩ (by simp) rfl
            refine .inl ⟨.pointer (some ⟨w.heap.size, 1, none⟩), ?_, rfl⟩
            simp [execOp, go_sem, Act.eval, t3, p0]
          | 5, hi =>
            obtain rfl := Option.some.inj hi
            have p0 : a.tmps.getD 18 undef = .pointer (some ⟨w.heap.size, 1, none⟩) := hpre ⟨4, .data⟩ (by simp) rfl
            refine .inl ⟨I d1, ?_, rfl⟩
            simp [execOp, go_sem, Act.eval, p0, c1]
          | 6, hi =>
            obtain rfl := Option.some.inj hi
            have p0 : a.tmps.getD 14 undef = A3 d0 d1 d2 := hpre ⟨0, .data⟩ (by simp) rfl
            have p1 : a.tmps.getD 15 undef = I 1 := hpre ⟨1, .data⟩ (by simp) rfl
            have p2 : a.tmps.getD 16 undef = I m := hpre ⟨2, .data⟩ (by simp) rfl
            have p5 : a.tmps.getD 19 undef = I d1 := hpre ⟨5, .data⟩ (by simp) rfl
            refine .inr ⟨128, #[A3 d0 d1 d2, I 1, I m, I d1], ?_, ?_⟩
            · simp [go_sem, Act.eval, p0, p1, p2, p5]
            · refine (HT.out w').mono ?_
              rintro e w'' ⟨v, rfl, hl, hB⟩
              exact ⟨_, rfl, hB, hl.weak hT.size⟩
          | 7, hi =>
            obtain rfl := Option.some.inj hi
            have p0 : Lst w' W1.heap.size (a.tmps.getD 20 undef) X := hpre ⟨6, .data⟩ (by simp) rfl
            refine .inl ⟨a.tmps.getD 20 undef, ?_, p0⟩
            simp [execOp, go_sem, Act.eval]
          | n + 8, hi => simp at hi
        · intro v w' hT hall
          have hX : Lst w' W1.heap.size (v 7) X := hall 7 (of_decide_eq_true (by kernel_rfl))
          clear hall
          simp only [List.length_cons, List.length_nil, Nat.zero_add, Nat.reduceAdd, List.range, List.range.loop, List.foldl_cons, List.foldl_nil, dstOf, List.getElem?_cons_zero, List.getElem?_cons_succ, Option.getD_some, Act.put, List.setIfInBounds_toArray, List.set_cons_succ, List.set_cons_zero]
          go_wp2
          go_ret
          exact ⟨_, rfl, hX.weak hB1.size, then_below hB1 hT⟩
      · simp only [axI, dimAt] at *
        go_enter Tryz.func121, Tryz.ntmps121
        go_wp2_with fail
        generalize w.alloc (.cells #[I d0, I d1, I d2] 23) = W1 at *
        refine wp_region_loud (w0 := W1) (wordV d0 d1 d2 m 2 d2 w.heap.size 2 W1.heap.size X) hmx (by kernel_rfl) wordV_later ?_ ?_
        · intro i o hi a w' hT hL hpre
          have t1 : a.tmps.getD 1 undef = I 2 := by
            rw [Array.getD_eq_getD_getElem?, hL.out 1 (of_decide_eq_true (by kernel_rfl))]; rfl
          have t2 : a.tmps.getD 2 undef = I m := by
            rw [Array.getD_eq_getD_getElem?, hL.out 2 (of_decide_eq_true (by kernel_rfl))]; rfl
          have t3 : a.tmps.getD 5 undef = .pointer (some ⟨w.heap.size, 0, none⟩) := by
            rw [Array.getD_eq_getD_getElem?, hL.out 5 (of_decide_eq_true (by kernel_rfl))]; rfl
          obtain ⟨c0, c1, c2, hz⟩ := g0.three hT
          clear hL
          match i, hi with
          | 0, hi =>
            obtain rfl := Option.some.inj hi
            refine .inl ⟨A3 d0 d1 d2, ?_, rfl⟩
            simp [execOp, go_sem, Act.eval, t3, c0, c1, c2]
          | 1, hi =>
            obtain rfl := Option.some.inj hi
            refine .inl ⟨I 2, ?_, rfl⟩
            simp [execOp, go_sem, Act.eval, t1]
          | 2, hi =>
            obtain rfl := Option.some.inj hi
            refine .inl ⟨I m, ?_, rfl⟩
            simp [execOp, go_sem, Act.eval, t2]
          | 3, hi =>
            obtain rfl := Option.some.inj hi
            refine .inl ⟨I 2, ?_, rfl⟩
            simp [execOp, go_sem, Act.eval, t1]
          | 4, hi =>
            obtain rfl := Option.some.inj hi
            have p0 : a.tmps.getD 17 undef = I 2 := hpre ⟨3, .data⟩ (by simp) rfl
            refine .inl ⟨.pointer (some ⟨w.heap.size, 2, none⟩), ?_, rfl⟩
            simp [execOp, go_sem, Act.eval, t3, p0]
          | 5, hi =>
            obtain rfl := Option.some.inj hi
            have p0 : a.tmps.getD 18 undef = .pointer (some ⟨w.heap.size, 2, none⟩) := hpre ⟨4, .data⟩ (by simp) rfl
            refine .inl ⟨I d2, ?_, rfl⟩
            simp [execOp, go_sem, Act.eval, p0, c2]
          | 6, hi =>
            obtain rfl := Option.some.inj hi
            have p0 : a.tmps.getD 14 undef = A3 d0 d1 d2 := hpre ⟨0, .data⟩ (by simp) rfl
            have p1 : a.tmps.getD 15 undef = I 2 := hpre ⟨1, .data⟩ (by simp) rfl
            have p2 : a.tmps.getD 16 undef = I m := hpre ⟨2, .data⟩ (by simp) rfl
            have p5 : a.tmps.getD 19 undef = I d2 := hpre ⟨5, .data⟩ (by simp) rfl
            refine .inr ⟨128, #[A3 d0 d1 d2, I 2, I m, I d2], ?_, ?_⟩
            · simp [go_sem, Act.eval, p0, p1, p2, p5]
            · refine (HT.out w').mono ?_
              rintro e w'' ⟨v, rfl, hl, hB⟩
              exact ⟨_, rfl, hB, hl.weak hT.size⟩
          | 7, hi =>
            obtain rfl := Option.some.inj hi
            have p0 : Lst w' W1.heap.size (a.tmps.getD 20 undef) X := hpre ⟨6, .data⟩ (by simp) rfl
            refine .inl ⟨a.tmps.getD 20 undef, ?_, p0⟩
            simp [execOp, go_sem, Act.eval]
          | n + 8, hi => simp at hi
        · intro v w' hT hall
          have hX : Lst w' W1.heap.size (v 7) X := hall 7 (of_decide_eq_true (by kernel_rfl))
          clear hall
          simp only [List.length_cons, List.length_nil, Nat.zero_add, Nat.reduceAdd, List.range, List.range.loop, List.foldl_cons, List.foldl_nil, dstOf, List.getElem?_cons_zero, List.getElem?_cons_succ, Option.getD_some, Act.put, List.setIfInBounds_toArray, List.set_cons_succ, List.set_cons_zero]
          go_wp2
          go_ret
          exact ⟨_, rfl, hX.weak hB1.size, then_below hB1 hT⟩
    · go_enter Tryz.func121, Tryz.ntmps121
      go_wp2_with fail
      refine (HT.out _).mono ?_
      rintro e w2 ⟨u, rfl, hX, hB2⟩
      go_wp2
      go_ret
      exact ⟨_, rfl, hX.weak hB1.size, then_below hB1 hB2⟩

end Go.Proofs.YtlahfffgmfjpaaaGreatDoor

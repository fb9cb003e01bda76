/-
  pos.Step: the midplane some steps on, for every input; nothing that lay before is turned.
-/
import Derived.Test.YtbedhpooeabehaaDoorPart8
import Derived.Test.YtbedhpooeabehaaDoorPart1
import Derived.Test.YtbedhpooeabehaaDoorPart7
import Derived.Test.YtbedhpooeabehaaDoorPart4
import Derived.LoopNIn
import Derived.LoopIn
import Derived.TacticsInMore
import Derived.OwnWalkIn
namespace Go.Proofs.YtbedhpooeabehaaDoor
open Go.RowKit Go.Shelf

attribute [local go_sem] Oper.semAt_some ext_const

theorem around_calls {k n : Int} (w : World) (hk : -n < k) (hk2 : k ≤ 1000) (h1 : 1 ≤ n) (h2 : n ≤ 16) :
    Calls Tryd.prog 61 #[I k, I n] w fun e w' => e = .returned (I (k % n)) ∧ w' = w := by
  have E : Hid ((k + n) % n = k % n) := Int.add_emod_right k n
  go_enter Tryd.func61, Tryd.ntmps61
  go_wp2
  go_ret
  rw [← E.out]
  exact ⟨rfl, rfl⟩

set_option maxHeartbeats 400000 in
theorem step_err {d0 d1 d2 : Int} (m axis by_ e : Int) (w : World) (he : (e != 0) = true)
    (hc : ∀ w, Calls Tryd.prog 59 #[A3 d0 d1 d2, I m] w fun x W' => x = .returned (.tuple #[A3 0 0 0, I e]) ∧ Below w.heap.size w W') :
    Calls Tryd.prog 47 #[A3 d0 d1 d2, I m, I axis, I by_] w fun x W' => x = .returned (.tuple #[I 0, I e]) ∧ Below w.heap.size w W' := by
  have HH : Hid (∀ w, Calls Tryd.prog 59 #[A3 d0 d1 d2, I m] w fun x W' => x = .returned (.tuple #[A3 0 0 0, I e]) ∧ Below w.heap.size w W') := hc
  clear hc
  go_enter Tryd.func47, Tryd.ntmps47
  go_wp2_with fail
  refine (HH.out _).mono ?_
  rintro x w1 ⟨rfl, hB⟩
  go_wp2
  go_ret2
  exact ⟨rfl, (((Below.refl _ w).alloc (Nat.le_refl _) _).trans (hB.mono (by simp))).alloc (by have := hB.size; simp at this; omega) _⟩

set_option maxHeartbeats 400000 in
theorem step_axis {d0 d1 d2 m axis by_ : Int} (w : World) (hm : mayD d0 d1 d2) (hn : 0 ≤ m ∧ m < d0 * d1 * d2) (ha : ¬ (0 ≤ axis ∧ axis < 3)) :
    Calls Tryd.prog 47 #[A3 d0 d1 d2, I m, I axis, I by_] w fun x W' => x = .returned (.tuple #[I 0, I 2]) ∧ Below w.heap.size w W' := by
  have hb : belowB axis 3 = false := by simp [belowB]; omega
  have HN : Hid (0 ≤ m ∧ m < d0 * d1 * d2) := hn
  clear hn ha
  go_enter Tryd.func47, Tryd.ntmps47
  go_wp2_with fail
  refine (of_yes _ hm HN.out).mono ?_
  rintro x w1 ⟨rfl, hB⟩
  go_wp2_with fail
  refine (below_calls _ _ _).mono ?_
  rintro x w2 ⟨rfl, rfl⟩
  go_wp2
  go_ret2
  exact ⟨rfl, (((Below.refl _ w).alloc (Nat.le_refl _) _).trans (hB.mono (by simp))).alloc (by have := hB.size; simp at this; omega) _⟩


set_option maxRecDepth 100000 in
set_option maxHeartbeats 1000000 in
theorem step_yes {d0 d1 d2 m by_ : Int} (w : World) (hm : mayD d0 d1 d2) (hn : 0 ≤ m ∧ m < d0 * d1 * d2) (k : Fin 3) :
    Calls Tryd.prog 47 #[A3 d0 d1 d2, I m, I (axI k), I by_] w fun x W' => x = .returned (.tuple #[I (onD d0 d1 d2 m k by_), I 0]) ∧ Below w.heap.size w W' := by
  have HN : Hid (0 ≤ m ∧ m < d0 * d1 * d2) := hn
  have hin := inD_of_node hm hn
  have hon := inD_on hm hn by_
  have hd := hm
  unfold inD at hin
  unfold mayD okD at hd
  clear hn
  rcases fin3 k with rfl | rfl | rfl
  · simp only [axI, onD]
    have hb : belowB 0 3 = true := by simp [belowB]
    obtain ⟨ht1, ht2, ht3⟩ := tmod_bd by_ d0 (by omega)
    have HT : Hid ((cx d0 m + by_.tmod d0) % d0 = (cx d0 m + by_) % d0) := ht3 _
    clear ht3
    go_enter Tryd.func47, Tryd.ntmps47
    go_wp2_with fail
    refine (of_yes _ hm HN.out).mono ?_
    rintro x w1 ⟨rfl, hB⟩
    go_wp2_with fail
    refine (below_calls _ _ _).mono ?_
    rintro x w2 ⟨rfl, rfl⟩
    go_wp2_with fail
    obtain ⟨W, hW⟩ : ∃ W, w1.alloc (.cells #[I (cx d0 m), I (cy d0 d1 m), I (cz d0 d1 m)] 25) = W := ⟨_, rfl⟩
    have q0 : Blk W w.heap.size 26 #[I d0, I d1, I d2] := hW ▸ ((Blk.new w 26 #[I d0, I d1, I d2]).later hB).alloc _
    have q1 : Blk W w1.heap.size 25 #[I (cx d0 m), I (cy d0 d1 m), I (cz d0 d1 m)] := hW ▸ Blk.new w1 _ _
    have hz : w.heap.size < w1.heap.size := by have := hB.size; simp at this; omega
    have hBW : Below w.heap.size w W := hW ▸ (((Below.refl _ w).alloc (Nat.le_refl _) _).trans (hB.mono (by simp))).alloc (by omega) _
    rw [hW]
    clear hW hB
    have hmx : Tryd.prog.follows .mixedOrders = true := by kernel_rfl
    have e0 := Ext.cell q0 0
    have e1 := Ext.cell q1 0
    simp at e0 e1
    refine wp_region_tail 15 hmx (by kernel_rfl) ?_
    simp only [List.take_succ_cons, List.take_zero, List.drop_succ_cons, List.drop_zero]
    repeat (go_big_quiet_step (exact calls_ext_same (around_calls _ (by omega) (by omega) (by omega) (by omega))))
    refine wpQuiet_nil ?_
    intro x
    have r0 := q0.later x.le
    have r1 := q1.later x.le
    have c1 := r1.cell 0
    have f1 := r1.frozen 0
    simp at c1
    gi_wp2
    rw [HT.out]
    have r0' := r0.other (B' := w1.heap.size) 0 (.int .i64 ((cx d0 m + by_) % d0)) (by omega)
    have r1' := r1.set 0 (.int .i64 ((cx d0 m + by_) % d0))
    have hBX := (below_ext hBW x).setCell (p := ⟨w1.heap.size, 0, none⟩) (by simp; omega) (.int .i64 ((cx d0 m + by_) % d0))
    generalize x.wd.setCell ⟨w1.heap.size, 0, none⟩ (.int .i64 ((cx d0 m + by_) % d0)) = W5 at *
    clear e0 e1 c1 f1 r0 r1 q0 q1 hBW
    have c0 := r0'.cell 0
    have c1 := r0'.cell 1
    have c2 := r0'.cell 2
    have k0 := r1'.cell 0
    have k1 := r1'.cell 1
    have k2 := r1'.cell 2
    simp at c0 c1 c2 k0 k1 k2
    go_wp2_with fail
    refine (at_yes _ hm hon.1).mono ?_
    rintro e w6 ⟨rfl, hB6⟩
    go_wp2
    go_ret2
    exact ⟨rfl, hBX.trans (hB6.mono hBX.size)⟩
  · simp only [axI, onD]
    have hb : belowB 1 3 = true := by simp [belowB]
    obtain ⟨ht1, ht2, ht3⟩ := tmod_bd by_ d1 (by omega)
    have HT : Hid ((cy d0 d1 m + by_.tmod d1) % d1 = (cy d0 d1 m + by_) % d1) := ht3 _
    clear ht3
    go_enter Tryd.func47, Tryd.ntmps47
    go_wp2_with fail
    refine (of_yes _ hm HN.out).mono ?_
    rintro x w1 ⟨rfl, hB⟩
    go_wp2_with fail
    refine (below_calls _ _ _).mono ?_
    rintro x w2 ⟨rfl, rfl⟩
    go_wp2_with fail
    obtain ⟨W, hW⟩ : ∃ W, w1.alloc (.cells #[I (cx d0 m), I (cy d0 d1 m), I (cz d0 d1 m)] 25) = W := ⟨_, rfl⟩
    have q0 : Blk W w.heap.size 26 #[I d0, I d1, I d2] := hW ▸ ((Blk.new w 26 #[I d0, I d1, I d2]).later hB).alloc _
    have q1 : Blk W w1.heap.size 25 #[I (cx d0 m), I (cy d0 d1 m), I (cz d0 d1 m)] := hW ▸ Blk.new w1 _ _
    have hz : w.heap.size < w1.heap.size := by have := hB.size; simp at this; omega
    have hBW : Below w.heap.size w W := hW ▸ (((Below.refl _ w).alloc (Nat.le_refl _) _).trans (hB.mono (by simp))).alloc (by omega) _
    rw [hW]
    clear hW hB
    have hmx : Tryd.prog.follows .mixedOrders = true := by kernel_rfl
    have e0 := Ext.cell q0 1
    have e1 := Ext.cell q1 1
    simp at e0 e1
    refine wp_region_tail 15 hmx (by kernel_rfl) ?_
    simp only [List.take_succ_cons, List.take_zero, List.drop_succ_cons, List.drop_zero]
    repeat (go_big_quiet_step (exact calls_ext_same (around_calls _ (by omega) (by omega) (by omega) (by omega))))
    refine wpQuiet_nil ?_
    intro x
    have r0 := q0.later x.le
    have r1 := q1.later x.le
    have c1 := r1.cell 1
    have f1 := r1.frozen 1
    simp at c1
    gi_wp2
    rw [HT.out]
    have r0' := r0.other (B' := w1.heap.size) 1 (.int .i64 ((cy d0 d1 m + by_) % d1)) (by omega)
    have r1' := r1.set 1 (.int .i64 ((cy d0 d1 m + by_) % d1))
    have hBX := (below_ext hBW x).setCell (p := ⟨w1.heap.size, 1, none⟩) (by simp; omega) (.int .i64 ((cy d0 d1 m + by_) % d1))
    generalize x.wd.setCell ⟨w1.heap.size, 1, none⟩ (.int .i64 ((cy d0 d1 m + by_) % d1)) = W5 at *
    clear e0 e1 c1 f1 r0 r1 q0 q1 hBW
    have c0 := r0'.cell 0
    have c1 := r0'.cell 1
    have c2 := r0'.cell 2
    have k0 := r1'.cell 0
    have k1 := r1'.cell 1
    have k2 := r1'.cell 2
    simp at c0 c1 c2 k0 k1 k2
    go_wp2_with fail
    refine (at_yes _ hm hon.2.1).mono ?_
    rintro e w6 ⟨rfl, hB6⟩
    go_wp2
    go_ret2
    exact ⟨rfl, hBX.trans (hB6.mono hBX.size)⟩
  · simp only [axI, onD]
    have hb : belowB 2 3 = true := by simp [belowB]
    obtain ⟨ht1, ht2, ht3⟩ := tmod_bd by_ d2 (by omega)
    have HT : Hid ((cz d0 d1 m + by_.tmod d2) % d2 = (cz d0 d1 m + by_) % d2) := ht3 _
    clear ht3
    go_enter Tryd.func47, Tryd.ntmps47
    go_wp2_with fail
    refine (of_yes _ hm HN.out).mono ?_
    rintro x w1 ⟨rfl, hB⟩
    go_wp2_with fail
    refine (below_calls _ _ _).mono ?_
    rintro x w2 ⟨rfl, rfl⟩
    go_wp2_with fail
    obtain ⟨W, hW⟩ : ∃ W, w1.alloc (.cells #[I (cx d0 m), I (cy d0 d1 m), I (cz d0 d1 m)] 25) = W := ⟨_, rfl⟩
    have q0 : Blk W w.heap.size 26 #[I d0, I d1, I d2] := hW ▸ ((Blk.new w 26 #[I d0, I d1, I d2]).later hB).alloc _
    have q1 : Blk W w1.heap.size 25 #[I (cx d0 m), I (cy d0 d1 m), I (cz d0 d1 m)] := hW ▸ Blk.new w1 _ _
    have hz : w.heap.size < w1.heap.size := by have := hB.size; simp at this; omega
    have hBW : Below w.heap.size w W := hW ▸ (((Below.refl _ w).alloc (Nat.le_refl _) _).trans (hB.mono (by simp))).alloc (by omega) _
    rw [hW]
    clear hW hB
    have hmx : Tryd.prog.follows .mixedOrders = true := by kernel_rfl
    have e0 := Ext.cell q0 2
    have e1 := Ext.cell q1 2
    simp at e0 e1
    refine wp_region_tail 15 hmx (by kernel_rfl) ?_
    simp only [List.take_succ_cons, List.take_zero, List.drop_succ_cons, List.drop_zero]
    repeat (go_big_quiet_step (exact calls_ext_same (around_calls _ (by omega) (by omega) (by omega) (by omega))))
    refine wpQuiet_nil ?_
    intro x
    have r0 := q0.later x.le
    have r1 := q1.later x.le
    have c1 := r1.cell 2
    have f1 := r1.frozen 2
    simp at c1
    gi_wp2
    rw [HT.out]
    have r0' := r0.other (B' := w1.heap.size) 2 (.int .i64 ((cz d0 d1 m + by_) % d2)) (by omega)
    have r1' := r1.set 2 (.int .i64 ((cz d0 d1 m + by_) % d2))
    have hBX := (below_ext hBW x).setCell (p := ⟨w1.heap.size, 2, none⟩) (by simp; omega) (.int .i64 ((cz d0 d1 m + by_) % d2))
    generalize x.wd.setCell ⟨w1.heap.size, 2, none⟩ (.int .i64 ((cz d0 d1 m + by_) % d2)) = W5 at *
    clear e0 e1 c1 f1 r0 r1 q0 q1 hBW
    have c0 := r0'.cell 0
    have c1 := r0'.cell 1
    have c2 := r0'.cell 2
    have k0 := r1'.cell 0
    have k1 := r1'.cell 1
    have k2 := r1'.cell 2
    simp at c0 c1 c2 k0 k1 k2
    go_wp2_with fail
    refine (at_yes _ hm hon.2.2).mono ?_
    rintro e w6 ⟨rfl, hB6⟩
    go_wp2
    go_ret2
    exact ⟨rfl, hBX.trans (hB6.mono hBX.size)⟩

end Go.Proofs.YtbedhpooeabehaaDoor

/-
  score.sides, and what it hands back as a range over it asks: the sides of a midplane. (Written by tools/gen/score_sides.py.)
-/
namespace Go.Proofs.YtbedhpooeabehaaDoor
open Go Go.RowKit Go.Shelf

theorem ixS0 (x y z : Int) (w : World) : (Instr.index 26 (A3 x y z) (.int .i64 0)).run Tryd.prog w = .ok (.int .i64 x) w := by kernel_rfl
theorem ixS1 (x y z : Int) (w : World) : (Instr.index 26 (A3 x y z) (.int .i64 1)).run Tryd.prog w = .ok (.int .i64 y) w := by kernel_rfl
theorem ixS2 (x y z : Int) (w : World) : (Instr.index 26 (A3 x y z) (.int .i64 2)).run Tryd.prog w = .ok (.int .i64 z) w := by kernel_rfl
theorem ixT0 (x y : Int) (w : World) : (Instr.index 81 (.agg #[I x, I y]) (.int .i64 0)).run Tryd.prog w = .ok (.int .i64 x) w := by kernel_rfl
theorem ixT1 (x y : Int) (w : World) : (Instr.index 81 (.agg #[I x, I y]) (.int .i64 1)).run Tryd.prog w = .ok (.int .i64 y) w := by kernel_rfl

attribute [local go_sem] Oper.semAt_some ext_const ixS0 ixS1 ixS2 ixT0 ixT1

set_option maxRecDepth 100000 in
theorem sidesQ_calls (d0 d1 d2 m : Int) (w : World) : Calls Tryd.prog 34 #[A3 d0 d1 d2, I m] w fun e W' => e = .returned (.func (.func 46) #[] #[.pointer (some ⟨w.heap.size, 0, none⟩), .pointer (some ⟨w.heap.size + 1, 0, none⟩)]) ∧ W' = (w.alloc (.cells #[I d0, I d1, I d2] 26)).alloc (.cells #[I m] 3) := by
  go_enter Tryd.func34, Tryd.ntmps34
  go_wp2
  go_ret
  exact ⟨rfl, rfl⟩

abbrev encQ (x : Int) : Array Value := #[I x]
theorem preQ_append {a b c : List Int} (h : b <+: c) : a ++ b <+: a ++ c := (List.prefix_append_right_inj a).2 h
/-- What the iterator keeps for itself. -/
structure SidPv (d0 d1 d2 m : Int) (Bd Bm : Nat) (W : World) : Prop where
  d : Blk W Bd 26 #[I d0, I d1, I d2]
  m : Blk W Bm 3 #[I m]
section
variable {d0 d1 d2 m : Int} {Bd Bm : Nat} {W W' : World}
theorem SidPv.later (h : SidPv d0 d1 d2 m Bd Bm W) (hb : Below W.heap.size W W') : SidPv d0 d1 d2 m Bd Bm W' := ⟨h.d.later hb, h.m.later hb⟩
theorem SidPv.keep {ok : Nat → TypeId → Bool} (h : SidPv d0 d1 d2 m Bd Bm W) (hk : KeepB ok W W') (h1 : ok Bd 26 = true) (h2 : ok Bm 3 = true) : SidPv d0 d1 d2 m Bd Bm W' := ⟨hk.blk h.d h1, hk.blk h.m h2⟩
end

set_option maxRecDepth 100000 in
set_option maxHeartbeats 8000000 in
theorem sidesQ_seq {d0 d1 d2 m : Int} (ok : Nat → TypeId → Bool) {Bd Bm : Nat} (hok1 : ok Bd 26 = true) (hok2 : ok Bm 3 = true) (w : World) (hd : mayD d0 d1 d2) (hm : 0 ≤ m ∧ m < d0 * d1 * d2) (hBd : Blk w Bd 26 #[I d0, I d1, I d2]) (hBm : Blk w Bm 3 #[I m]) :
    SeqB Tryd.prog 46 #[.pointer (some ⟨Bd, 0, none⟩), .pointer (some ⟨Bm, 0, none⟩)] encQ ok (sidesL d0 d1 d2 m) w := fun l J Jx W hW hJ hJx hY h0 => by
  have HY : Hid (∀ (pre : List Int) (x : Int) (W1 : World), pre ++ [x] <+: sidesL d0 d1 d2 m → J pre W1 → YieldAt Fence.wide 0 Tryd.prog l (encQ x) W1 fun e W' => (e = .returned (.bool true) ∧ J (pre ++ [x]) W' ∧ KeepB ok W1 W' ∧ KeepsFrom W.heap.size W1 W') ∨ (e = .returned (.bool false) ∧ Jx (pre ++ [x]) W' ∧ KeepsFrom W.heap.size W1 W')) := hY
  have pv0 : SidPv d0 d1 d2 m Bd Bm W := ⟨hBd.later hW, hBm.later hW⟩
  have HJ : Hid (OwnFrom W.heap.size J ∧ OwnFrom W.heap.size Jx) := ⟨hJ, hJx⟩
  have HO : Hid (ok Bd 26 = true ∧ ok Bm 3 = true) := ⟨hok1, hok2⟩
  have HS : Hid (∀ (k : Fin 3) (by_ : Int) (w : World), Calls Tryd.prog 47 #[A3 d0 d1 d2, I m, I (axI k), I by_] w fun x W' => x = .returned (.tuple #[I (onD d0 d1 d2 m k by_), I 0]) ∧ Below w.heap.size w W') := fun k by_ w => step_yes w hd hm k
  have HL : Hid (sidesL d0 d1 d2 m = twoQ d0 d1 d2 m 0 ++ (twoQ d0 d1 d2 m 1 ++ twoQ d0 d1 d2 m 2)) := rfl
  have HT0 : Hid ((d0 = 1 → twoQ d0 d1 d2 m 0 = []) ∧ (d0 ≠ 1 → twoQ d0 d1 d2 m 0 = [onD d0 d1 d2 m 0 1, onD d0 d1 d2 m 0 (-1)])) := ⟨fun h => if_pos h, fun h => if_neg h⟩
  have HT1 : Hid ((d1 = 1 → twoQ d0 d1 d2 m 1 = []) ∧ (d1 ≠ 1 → twoQ d0 d1 d2 m 1 = [onD d0 d1 d2 m 1 1, onD d0 d1 d2 m 1 (-1)])) := ⟨fun h => if_pos h, fun h => if_neg h⟩
  have HT2 : Hid ((d2 = 1 → twoQ d0 d1 d2 m 2 = []) ∧ (d2 ≠ 1 → twoQ d0 d1 d2 m 2 = [onD d0 d1 d2 m 2 1, onD d0 d1 d2 m 2 (-1)])) := ⟨fun h => if_pos h, fun h => if_neg h⟩
  clear hY hBd hBm hd hm hJ hJx hok1 hok2
  have HS0a : Hid (∀ w : World, Calls Tryd.prog 47 #[A3 d0 d1 d2, I m, I 0, I 1] w fun x W' => x = .returned (.tuple #[I (onD d0 d1 d2 m 0 1), I 0]) ∧ Below w.heap.size w W') := fun w => HS.out 0 1 w
  have HS0b : Hid (∀ w : World, Calls Tryd.prog 47 #[A3 d0 d1 d2, I m, I 0, I (-1)] w fun x W' => x = .returned (.tuple #[I (onD d0 d1 d2 m 0 (-1)), I 0]) ∧ Below w.heap.size w W') := fun w => HS.out 0 (-1) w
  have HS1a : Hid (∀ w : World, Calls Tryd.prog 47 #[A3 d0 d1 d2, I m, I 1, I 1] w fun x W' => x = .returned (.tuple #[I (onD d0 d1 d2 m 1 1), I 0]) ∧ Below w.heap.size w W') := fun w => HS.out 1 1 w
  have HS1b : Hid (∀ w : World, Calls Tryd.prog 47 #[A3 d0 d1 d2, I m, I 1, I (-1)] w fun x W' => x = .returned (.tuple #[I (onD d0 d1 d2 m 1 (-1)), I 0]) ∧ Below w.heap.size w W') := fun w => HS.out 1 (-1) w
  have HS2a : Hid (∀ w : World, Calls Tryd.prog 47 #[A3 d0 d1 d2, I m, I 2, I 1] w fun x W' => x = .returned (.tuple #[I (onD d0 d1 d2 m 2 1), I 0]) ∧ Below w.heap.size w W') := fun w => HS.out 2 1 w
  have HS2b : Hid (∀ w : World, Calls Tryd.prog 47 #[A3 d0 d1 d2, I m, I 2, I (-1)] w fun x W' => x = .returned (.tuple #[I (onD d0 d1 d2 m 2 (-1)), I 0]) ∧ Below w.heap.size w W') := fun w => HS.out 2 (-1) w
  clear HS
  generalize sidesL d0 d1 d2 m = L at *
  generalize twoQ d0 d1 d2 m 0 = T0 at *
  generalize onD d0 d1 d2 m 0 1 = a0 at *
  generalize onD d0 d1 d2 m 0 (-1) = b0 at *
  generalize twoQ d0 d1 d2 m 1 = T1 at *
  generalize onD d0 d1 d2 m 1 1 = a1 at *
  generalize onD d0 d1 d2 m 1 (-1) = b1 at *
  generalize twoQ d0 d1 d2 m 2 = T2 at *
  generalize onD d0 d1 d2 m 2 1 = a2 at *
  generalize onD d0 d1 d2 m 2 (-1) = b2 at *
  refine (callsIn_wide (n := 3)).1 ?_
  refine callsIn_of_wp Tryd.func46 rfl trivial ?_ rfl
  simp only [Tryd.ntmps46, List.size_toArray, List.length_cons, List.length_nil, Nat.reduceAdd, Nat.reduceSub, Array.replicate_succ, Array.replicate_zero, List.push_toArray, List.append_toArray, List.nil_append, List.cons_append]
  obtain ⟨c0, c1, c2, hz⟩ := pv0.d.three (Below.refl _ _)
  gi_wp2
  gi_loopw [11] (fun i wr => ((i = I 0 ∧ Hid (J [] wr)) ∨ (i = I 1 ∧ Hid (J T0 wr)) ∨ (i = I 2 ∧ Hid (J (T0 ++ T1) wr)) ∨ (i = I 3 ∧ Hid (J L wr))) ∧ SidPv d0 d1 d2 m Bd Bm wr) (fun i _ => 3 - (RowKit.intOf i).toNat)
  case atStart => exact ⟨.inl ⟨rfl, h0⟩, pv0⟩
  case round =>
    clear c0 c1 c2 hz h0 pv0
    obtain ⟨hrel, pv1⟩ := hrel
    rcases hrel with ⟨rfl, HJ1⟩ | ⟨rfl, HJ1⟩ | ⟨rfl, HJ1⟩ | ⟨rfl, HJ1⟩
    · have HJ2 : Hid (J ([] : List Int) wr) := HJ1
      clear HJ1
      by_cases h1 : d0 = 1
      · have HJ3 : Hid (J T0 wr) := by
          show J _ _
          have e := HT0.out.1 h1
          have e2 := HJ2.out
          rw [e]
          exact e2
        clear HJ2
        gi_wp2
        go_roundw
        case rel => exact ⟨.inr (.inl (⟨rfl, HJ3⟩)), pv1⟩
        case measure => simp [RowKit.intOf]
      · have HTk : Hid (T0 = [a0, b0]) := HT0.out.2 h1
        have HP1 : Hid (([] : List Int) ++ [a0] <+: L) := by
          show _ <+: _
          rw [HL.out, HTk.out]
          exact ⟨[b0] ++ (T1 ++ T2), by simp⟩
        have HP2 : Hid ((([] : List Int) ++ [a0]) ++ [b0] <+: L) := by
          show _ <+: _
          rw [HL.out, HTk.out]
          exact ⟨T1 ++ T2, by simp⟩
        have HPn : Hid (T0 = (([] : List Int) ++ [a0]) ++ [b0]) := by
          show _ = _
          rw [HTk.out]; rfl
        clear HTk
        gi_wp2
        simp only [show (d0 == 1) = false from by simpa using h1]
        gi_loopw [18] (fun i wr2 => ((i = I 0 ∧ Hid (J ([] : List Int) wr2)) ∨ (i = I 1 ∧ Hid (J (([] : List Int) ++ [a0]) wr2)) ∨ (i = I 2 ∧ Hid (J T0 wr2))) ∧ SidPv d0 d1 d2 m Bd Bm wr2) (fun i _ => 2 - (RowKit.intOf i).toNat)
        case atStart => exact ⟨.inl ⟨rfl, HJ2⟩, pv1⟩
        case round =>
          clear HJ2 pv1
          rename World => wr2
          obtain ⟨hrel, pv2⟩ := hrel
          rcases hrel with ⟨rfl, HJ3⟩ | ⟨rfl, HJ3⟩ | ⟨rfl, HJ3⟩
          · have HJ4 : Hid (J ([] : List Int) wr2) := HJ3
            clear HJ3
            obtain ⟨e0, e1, e2, hez⟩ := pv2.d.three (Below.refl _ _)
            have f0 := pv2.m.cell 0
            have hfz := pv2.m.lt
            simp at f0
            gi_wp2_with fail
            refine ⟨trivial, (callsIn_wide.2 (HS0a.out _)).mono ?_⟩
            rintro e w3 ⟨rfl, hB⟩
            have pv3 := pv2.later hB
            have HJ5 : Hid (J ([] : List Int) w3) := own_below HJ.out.1 HJ4.out hB
            clear e0 e1 e2 hez f0 hfz pv2 HJ4 hB
            obtain ⟨f1, t1, as1, bo1, hy1, hR1⟩ := HY.out ([] : List Int) a0 w3 HP1.out HJ5.out
            dsimp only [encQ] at hy1
            have hR1 := roundIn_any (m := 3 - 1) hR1
            gi_wp2_with fail
            refine hR1.mono ?_
            rintro e W3 (⟨rfl, hJ6, hk6, _⟩ | ⟨rfl, hJx6, _⟩)
            · have pv4 := pv3.keep hk6 HO.out.1 HO.out.2
              have HJ6 : Hid (J (([] : List Int) ++ [a0]) W3) := hJ6
              clear hJ6 hk6 pv3 HJ5
              gi_wp2
              go_roundw
              case rel => exact ⟨.inr (.inl ⟨rfl, HJ6⟩), pv4⟩
              case measure => simp [RowKit.intOf]
            · gi_wp2
              refine bodyPost_ret (results_none rfl _ _ _) rfl ?_
              exact ⟨⟨_, rfl⟩, .inr ⟨_, HP1.out, hJx6⟩⟩
          · have HJ4 : Hid (J (([] : List Int) ++ [a0]) wr2) := HJ3
            clear HJ3
            obtain ⟨e0, e1, e2, hez⟩ := pv2.d.three (Below.refl _ _)
            have f0 := pv2.m.cell 0
            have hfz := pv2.m.lt
            simp at f0
            gi_wp2_with fail
            refine ⟨trivial, (callsIn_wide.2 (HS0b.out _)).mono ?_⟩
            rintro e w3 ⟨rfl, hB⟩
            have pv3 := pv2.later hB
            have HJ5 : Hid (J (([] : List Int) ++ [a0]) w3) := own_below HJ.out.1 HJ4.out hB
            clear e0 e1 e2 hez f0 hfz pv2 HJ4 hB
            obtain ⟨f1, t1, as1, bo1, hy1, hR1⟩ := HY.out (([] : List Int) ++ [a0]) b0 w3 HP2.out HJ5.out
            dsimp only [encQ] at hy1
            have hR1 := roundIn_any (m := 3 - 1) hR1
            gi_wp2_with fail
            refine hR1.mono ?_
            rintro e W3 (⟨rfl, hJ6, hk6, _⟩ | ⟨rfl, hJx6, _⟩)
            · have pv4 := pv3.keep hk6 HO.out.1 HO.out.2
              have HJ6 : Hid (J T0 W3) := (by show J _ _; rw [HPn.out]; exact hJ6)
              clear hJ6 hk6 pv3 HJ5
              gi_wp2
              go_roundw
              case rel => exact ⟨.inr (.inr ⟨rfl, HJ6⟩), pv4⟩
              case measure => simp [RowKit.intOf]
            · gi_wp2
              refine bodyPost_ret (results_none rfl _ _ _) rfl ?_
              exact ⟨⟨_, rfl⟩, .inr ⟨_, HP2.out, hJx6⟩⟩
          · have HJ4 : Hid (J T0 wr2) := HJ3
            clear HJ3
            gi_wp2
            go_roundw
            case rel => exact ⟨.inr (.inl (⟨rfl, HJ4⟩)), pv2⟩
            case measure => simp [RowKit.intOf]
    · have HJ2 : Hid (J T0 wr) := HJ1
      clear HJ1
      by_cases h1 : d1 = 1
      · have HJ3 : Hid (J (T0 ++ T1) wr) := by
          show J _ _
          have e := HT1.out.1 h1
          have e2 := HJ2.out
          rw [e, List.append_nil]
          exact e2
        clear HJ2
        gi_wp2
        go_roundw
        case rel => exact ⟨.inr (.inr (.inl (⟨rfl, HJ3⟩))), pv1⟩
        case measure => simp [RowKit.intOf]
      · have HTk : Hid (T1 = [a1, b1]) := HT1.out.2 h1
        have HP1 : Hid (T0 ++ [a1] <+: L) := by
          show _ <+: _
          rw [HL.out, HTk.out]
          exact ⟨[b1] ++ T2, by simp⟩
        have HP2 : Hid ((T0 ++ [a1]) ++ [b1] <+: L) := by
          show _ <+: _
          rw [HL.out, HTk.out]
          exact ⟨T2, by simp⟩
        have HPn : Hid ((T0 ++ T1) = (T0 ++ [a1]) ++ [b1]) := by
          show _ = _
          rw [HTk.out]; simp
        clear HTk
        gi_wp2
        simp only [show (d1 == 1) = false from by simpa using h1]
        gi_loopw [18] (fun i wr2 => ((i = I 0 ∧ Hid (J T0 wr2)) ∨ (i = I 1 ∧ Hid (J (T0 ++ [a1]) wr2)) ∨ (i = I 2 ∧ Hid (J (T0 ++ T1) wr2))) ∧ SidPv d0 d1 d2 m Bd Bm wr2) (fun i _ => 2 - (RowKit.intOf i).toNat)
        case atStart => exact ⟨.inl ⟨rfl, HJ2⟩, pv1⟩
        case round =>
          clear HJ2 pv1
          rename World => wr2
          obtain ⟨hrel, pv2⟩ := hrel
          rcases hrel with ⟨rfl, HJ3⟩ | ⟨rfl, HJ3⟩ | ⟨rfl, HJ3⟩
          · have HJ4 : Hid (J T0 wr2) := HJ3
            clear HJ3
            obtain ⟨e0, e1, e2, hez⟩ := pv2.d.three (Below.refl _ _)
            have f0 := pv2.m.cell 0
            have hfz := pv2.m.lt
            simp at f0
            gi_wp2_with fail
            refine ⟨trivial, (callsIn_wide.2 (HS1a.out _)).mono ?_⟩
            rintro e w3 ⟨rfl, hB⟩
            have pv3 := pv2.later hB
            have HJ5 : Hid (J T0 w3) := own_below HJ.out.1 HJ4.out hB
            clear e0 e1 e2 hez f0 hfz pv2 HJ4 hB
            obtain ⟨f1, t1, as1, bo1, hy1, hR1⟩ := HY.out T0 a1 w3 HP1.out HJ5.out
            dsimp only [encQ] at hy1
            have hR1 := roundIn_any (m := 3 - 1) hR1
            gi_wp2_with fail
            refine hR1.mono ?_
            rintro e W3 (⟨rfl, hJ6, hk6, _⟩ | ⟨rfl, hJx6, _⟩)
            · have pv4 := pv3.keep hk6 HO.out.1 HO.out.2
              have HJ6 : Hid (J (T0 ++ [a1]) W3) := hJ6
              clear hJ6 hk6 pv3 HJ5
              gi_wp2
              go_roundw
              case rel => exact ⟨.inr (.inl ⟨rfl, HJ6⟩), pv4⟩
              case measure => simp [RowKit.intOf]
            · gi_wp2
              refine bodyPost_ret (results_none rfl _ _ _) rfl ?_
              exact ⟨⟨_, rfl⟩, .inr ⟨_, HP1.out, hJx6⟩⟩
          · have HJ4 : Hid (J (T0 ++ [a1]) wr2) := HJ3
            clear HJ3
            obtain ⟨e0, e1, e2, hez⟩ := pv2.d.three (Below.refl _ _)
            have f0 := pv2.m.cell 0
            have hfz := pv2.m.lt
            simp at f0
            gi_wp2_with fail
            refine ⟨trivial, (callsIn_wide.2 (HS1b.out _)).mono ?_⟩
            rintro e w3 ⟨rfl, hB⟩
            have pv3 := pv2.later hB
            have HJ5 : Hid (J (T0 ++ [a1]) w3) := own_below HJ.out.1 HJ4.out hB
            clear e0 e1 e2 hez f0 hfz pv2 HJ4 hB
            obtain ⟨f1, t1, as1, bo1, hy1, hR1⟩ := HY.out (T0 ++ [a1]) b1 w3 HP2.out HJ5.out
            dsimp only [encQ] at hy1
            have hR1 := roundIn_any (m := 3 - 1) hR1
            gi_wp2_with fail
            refine hR1.mono ?_
            rintro e W3 (⟨rfl, hJ6, hk6, _⟩ | ⟨rfl, hJx6, _⟩)
            · have pv4 := pv3.keep hk6 HO.out.1 HO.out.2
              have HJ6 : Hid (J (T0 ++ T1) W3) := (by show J _ _; rw [HPn.out]; exact hJ6)
              clear hJ6 hk6 pv3 HJ5
              gi_wp2
              go_roundw
              case rel => exact ⟨.inr (.inr ⟨rfl, HJ6⟩), pv4⟩
              case measure => simp [RowKit.intOf]
            · gi_wp2
              refine bodyPost_ret (results_none rfl _ _ _) rfl ?_
              exact ⟨⟨_, rfl⟩, .inr ⟨_, HP2.out, hJx6⟩⟩
          · have HJ4 : Hid (J (T0 ++ T1) wr2) := HJ3
            clear HJ3
            gi_wp2
            go_roundw
            case rel => exact ⟨.inr (.inr (.inl (⟨rfl, HJ4⟩))), pv2⟩
            case measure => simp [RowKit.intOf]
    · have HJ2 : Hid (J (T0 ++ T1) wr) := HJ1
      clear HJ1
      by_cases h1 : d2 = 1
      · have HJ3 : Hid (J L wr) := by
          show J _ _
          have e := HT2.out.1 h1
          have e2 := HJ2.out
          rw [HL.out, e, List.append_nil]
          exact e2
        clear HJ2
        gi_wp2
        go_roundw
        case rel => exact ⟨.inr (.inr (.inr (⟨rfl, HJ3⟩))), pv1⟩
        case measure => simp [RowKit.intOf]
      · have HTk : Hid (T2 = [a2, b2]) := HT2.out.2 h1
        have HP1 : Hid ((T0 ++ T1) ++ [a2] <+: L) := by
          show _ <+: _
          rw [HL.out, HTk.out]
          exact ⟨[b2], by simp⟩
        have HP2 : Hid (((T0 ++ T1) ++ [a2]) ++ [b2] <+: L) := by
          show _ <+: _
          rw [HL.out, HTk.out]
          exact ⟨[], by simp⟩
        have HPn : Hid (L = ((T0 ++ T1) ++ [a2]) ++ [b2]) := by
          show _ = _
          rw [HL.out, HTk.out]; simp
        clear HTk
        gi_wp2
        simp only [show (d2 == 1) = false from by simpa using h1]
        gi_loopw [18] (fun i wr2 => ((i = I 0 ∧ Hid (J (T0 ++ T1) wr2)) ∨ (i = I 1 ∧ Hid (J ((T0 ++ T1) ++ [a2]) wr2)) ∨ (i = I 2 ∧ Hid (J L wr2))) ∧ SidPv d0 d1 d2 m Bd Bm wr2) (fun i _ => 2 - (RowKit.intOf i).toNat)
        case atStart => exact ⟨.inl ⟨rfl, HJ2⟩, pv1⟩
        case round =>
          clear HJ2 pv1
          rename World => wr2
          obtain ⟨hrel, pv2⟩ := hrel
          rcases hrel with ⟨rfl, HJ3⟩ | ⟨rfl, HJ3⟩ | ⟨rfl, HJ3⟩
          · have HJ4 : Hid (J (T0 ++ T1) wr2) := HJ3
            clear HJ3
            obtain ⟨e0, e1, e2, hez⟩ := pv2.d.three (Below.refl _ _)
            have f0 := pv2.m.cell 0
            have hfz := pv2.m.lt
            simp at f0
            gi_wp2_with fail
            refine ⟨trivial, (callsIn_wide.2 (HS2a.out _)).mono ?_⟩
            rintro e w3 ⟨rfl, hB⟩
            have pv3 := pv2.later hB
            have HJ5 : Hid (J (T0 ++ T1) w3) := own_below HJ.out.1 HJ4.out hB
            clear e0 e1 e2 hez f0 hfz pv2 HJ4 hB
            obtain ⟨f1, t1, as1, bo1, hy1, hR1⟩ := HY.out (T0 ++ T1) a2 w3 HP1.out HJ5.out
            dsimp only [encQ] at hy1
            have hR1 := roundIn_any (m := 3 - 1) hR1
            gi_wp2_with fail
            refine hR1.mono ?_
            rintro e W3 (⟨rfl, hJ6, hk6, _⟩ | ⟨rfl, hJx6, _⟩)
            · have pv4 := pv3.keep hk6 HO.out.1 HO.out.2
              have HJ6 : Hid (J ((T0 ++ T1) ++ [a2]) W3) := hJ6
              clear hJ6 hk6 pv3 HJ5
              gi_wp2
              go_roundw
              case rel => exact ⟨.inr (.inl ⟨rfl, HJ6⟩), pv4⟩
              case measure => simp [RowKit.intOf]
            · gi_wp2
              refine bodyPost_ret (results_none rfl _ _ _) rfl ?_
              exact ⟨⟨_, rfl⟩, .inr ⟨_, HP1.out, hJx6⟩⟩
          · have HJ4 : Hid (J ((T0 ++ T1) ++ [a2]) wr2) := HJ3
            clear HJ3
            obtain ⟨e0, e1, e2, hez⟩ := pv2.d.three (Below.refl _ _)
            have f0 := pv2.m.cell 0
            have hfz := pv2.m.lt
            simp at f0
            gi_wp2_with fail
            refine ⟨trivial, (callsIn_wide.2 (HS2b.out _)).mono ?_⟩
            rintro e w3 ⟨rfl, hB⟩
            have pv3 := pv2.later hB
            have HJ5 : Hid (J ((T0 ++ T1) ++ [a2]) w3) := own_below HJ.out.1 HJ4.out hB
            clear e0 e1 e2 hez f0 hfz pv2 HJ4 hB
            obtain ⟨f1, t1, as1, bo1, hy1, hR1⟩ := HY.out ((T0 ++ T1) ++ [a2]) b2 w3 HP2.out HJ5.out
            dsimp only [encQ] at hy1
            have hR1 := roundIn_any (m := 3 - 1) hR1
            gi_wp2_with fail
            refine hR1.mono ?_
            rintro e W3 (⟨rfl, hJ6, hk6, _⟩ | ⟨rfl, hJx6, _⟩)
            · have pv4 := pv3.keep hk6 HO.out.1 HO.out.2
              have HJ6 : Hid (J L W3) := (by show J _ _; rw [HPn.out]; exact hJ6)
              clear hJ6 hk6 pv3 HJ5
              gi_wp2
              go_roundw
              case rel => exact ⟨.inr (.inr ⟨rfl, HJ6⟩), pv4⟩
              case measure => simp [RowKit.intOf]
            · gi_wp2
              refine bodyPost_ret (results_none rfl _ _ _) rfl ?_
              exact ⟨⟨_, rfl⟩, .inr ⟨_, HP2.out, hJx6⟩⟩
          · have HJ4 : Hid (J L wr2) := HJ3
            clear HJ3
            gi_wp2
            go_roundw
            case rel => exact ⟨.inr (.inr (.inr (⟨rfl, HJ4⟩))), pv2⟩
            case measure => simp [RowKit.intOf]
    · have HF : Hid (J L wr) := HJ1
      clear HJ1
      gi_wp2
      go_end0
      exact ⟨⟨_, rfl⟩, .inl HF.out⟩

end Go.Proofs.YtbedhpooeabehaaDoor

/-
  score.check: dimensions and sets that may be; score.inAny: whether a midplane is in any of some sets.
-/
namespace Go.Proofs.YtbedhpooeabehaaDoor
open Go Go.RowKit Go.Shelf

/-- What dimensions and sets that may not be give. -/
def errK (d0 d1 d2 : Int) (wss : List (List Nat)) : Int := if okDB d0 d1 d2 && wss.all (fun ws => maySet (d0 * d1 * d2).toNat ws) then 0 else 8
def numK (d0 d1 d2 : Int) (wss : List (List Nat)) : Int := if errK d0 d1 d2 wss = 0 then d0 * d1 * d2 else 0
theorem errK_may {d0 d1 d2 : Int} (h : mayD d0 d1 d2) (ws : List Nat) : errAll (d0 * d1 * d2) [ws] = if maySet (d0 * d1 * d2).toNat ws then 0 else 8 := by
  have := N_bd h
  unfold errAll
  rw [if_pos (by simp [okN]; omega)]
  simp
theorem errK_no {d0 d1 d2 : Int} (h : ¬ mayD d0 d1 d2) (wss : List (List Nat)) : errK d0 d1 d2 wss = 8 := by
  have : okDB d0 d1 d2 = false := by
    rw [Bool.eq_false_iff]
    intro hc
    exact h ((okDB_iff _ _ _).1 hc)
  simp [errK, this]
theorem errK_one {d0 d1 d2 : Int} (h : mayD d0 d1 d2) {wss : List (List Nat)} {k : Nat} (hk : k < wss.length) (he : errAll (d0 * d1 * d2) [wss.getD k []] ≠ 0) : errK d0 d1 d2 wss = 8 := by
  rw [errK_may h] at he
  have hm : maySet (d0 * d1 * d2).toNat (wss.getD k []) = false := by
    cases hc : maySet (d0 * d1 * d2).toNat (wss.getD k [])
    · rfl
    · rw [hc] at he; exact absurd rfl he
  have : wss.all (fun ws => maySet (d0 * d1 * d2).toNat ws) = false := by
    rw [List.all_eq_false]
    exact ⟨wss.getD k [], by rw [List.getD_eq_getElem?_getD, List.getElem?_eq_getElem hk]; exact List.getElem_mem hk, by simp only [hm]; decide⟩
  simp [errK, this]
theorem errK_ok {d0 d1 d2 : Int} (h : mayD d0 d1 d2) {wss : List (List Nat)} (he : ∀ k, k < wss.length → errAll (d0 * d1 * d2) [wss.getD k []] = 0) : errK d0 d1 d2 wss = 0 := by
  have : wss.all (fun ws => maySet (d0 * d1 * d2).toNat ws) = true := by
    rw [List.all_eq_true]
    intro ws hw
    obtain ⟨k, hk, rfl⟩ := List.mem_iff_getElem.1 hw
    have h1 := he k hk
    rw [errK_may h, List.getD_eq_getElem?_getD, List.getElem?_eq_getElem hk] at h1
    cases hc : maySet (d0 * d1 * d2).toNat wss[k]
    · simp [hc] at h1
    · rfl
  simp [errK, (okDB_iff _ _ _).2 h, this]
theorem errK_zero {d0 d1 d2 : Int} {wss : List (List Nat)} (h : errK d0 d1 d2 wss = 0) : mayD d0 d1 d2 ∧ ∀ ws ∈ wss, errAll (d0 * d1 * d2) [ws] = 0 := by
  unfold errK at h
  split at h
  · rename_i hc
    rw [Bool.and_eq_true] at hc
    have hd := (okDB_iff _ _ _).1 hc.1
    refine ⟨hd, fun ws hw => ?_⟩
    rw [errK_may hd, if_pos (List.all_eq_true.1 hc.2 ws hw)]
  · cases h
theorem errK_cases (d0 d1 d2 : Int) (wss : List (List Nat)) : errK d0 d1 d2 wss = 0 ∨ errK d0 d1 d2 wss = 8 := by
  unfold errK
  split <;> simp

set_option maxRecDepth 100000 in
set_option maxHeartbeats 4000000 in
theorem schk_calls {v : Value} {vs : List Value} {wss : List (List Nat)} (d0 d1 d2 : Int) (w : World) (hv : Sl w v vs) (hl : vs.length = wss.length) (hs : vs.length ≤ 2) (hw : ∀ i, i < vs.length → Wds w (vs.getD i undef) (wss.getD i [])) :
    Calls Tryd.prog 19 #[A3 d0 d1 d2, v] w fun e W' => e = .returned (.tuple #[I (numK d0 d1 d2 wss), I (errK d0 d1 d2 wss)]) ∧ Below w.heap.size w W' := by
  obtain ⟨ao, cap, rfl, hv⟩ := hv
  by_cases hd : mayD d0 d1 d2
  · have hN := N_bd hd
    have HMn : Hid (∀ w, Calls Tryd.prog 31 #[A3 d0 d1 d2] w fun e W' => e = .returned (.tuple #[I (d0 * d1 * d2), I 0]) ∧ Below w.heap.size w W') := fun w => many_yes w hd
    obtain ⟨er, her⟩ : ∃ er, er = errK d0 d1 d2 wss := ⟨_, rfl⟩
    obtain ⟨nr, hnr⟩ : ∃ nr, nr = numK d0 d1 d2 wss := ⟨_, rfl⟩
    rw [← her, ← hnr]
    have H8 : Hid (∀ k, k < vs.length → errAll (d0 * d1 * d2) [wss.getD k []] ≠ 0 → er = 8 ∧ nr = 0) := fun k hk he => by
      have h1 := errK_one hd (by omega : k < wss.length) he
      exact ⟨by rw [her, h1], by rw [hnr, numK, h1]; rfl⟩
    have H0 : Hid ((∀ k, k < vs.length → errAll (d0 * d1 * d2) [wss.getD k []] = 0) → er = 0 ∧ nr = d0 * d1 * d2) := fun he => by
      have h1 := errK_ok hd (wss := wss) (fun k hk => he k (by omega))
      exact ⟨by rw [her, h1], by rw [hnr, numK, h1]; rfl⟩
    have HE8 : Hid (∀ ws : List Nat, errAll (d0 * d1 * d2) [ws] = 0 ∨ errAll (d0 * d1 * d2) [ws] = 8) := fun ws => by
      rw [errK_may hd]; split <;> simp
    have HV : Hid (∀ k, k < vs.length → ∃ g off, ao = some ⟨g, off, none⟩ ∧ g < w.heap.size ∧ w.cell? ⟨g, off + k, none⟩ = vs[k]?) := hv
    have HW : Hid (∀ i, i < vs.length → Wds w (vs.getD i undef) (wss.getD i [])) := hw
    clear her hnr hv hw hd hl
    generalize d0 * d1 * d2 = N at *
    go_enter Tryd.func19, Tryd.ntmps19
    have hT0 : Below w.heap.size w (w.alloc (.cells #[I d0, I d1, I d2] 26)) := (Below.refl _ w).alloc (Nat.le_refl _) _
    go_wp2_with fail
    refine (HMn.out _).mono ?_
    rintro e w1 ⟨rfl, hB⟩
    have hT : Below w.heap.size w w1 := then_below hT0 hB
    clear hT0 hB HMn
    go_wp2
    go_loopw [21] (fun i wr => ∃ k : Nat, k ≤ vs.length ∧ i = .int .i64 k ∧ Hid (∀ j, j < k → errAll N [wss.getD j []] = 0) ∧ Below w.heap.size w wr) (fun i _ => vs.length - (RowKit.intOf i).toNat)
    case atStart => exact ⟨0, by omega, rfl, fun j hj => by omega, hT⟩
    case round =>
      clear hT
      obtain ⟨k, hk, rfl, HT, hT⟩ := hrel
      by_cases hlt : (k : Int) < (vs.length : Int)
      · have hkx : k < vs.length := by omega
        obtain ⟨g, off, rfl, hg, hc⟩ := HV.out k hkx
        have hW := (HW.out k hkx).later hT
        rw [show vs[k]? = some (vs.getD k undef) by simp [hkx]] at hc
        have hc1 := (hT.cell (p := ⟨g, off + k, none⟩) hg).trans hc
        have HC : Hid (∀ W, Below w.heap.size w W → Calls Tryd.prog 32 #[I N, vs.getD k undef] W fun e W' => e = .returned (I (errAll N [wss.getD k []])) ∧ Below W.heap.size W W') := fun W hWb => chk_calls W ((HW.out k hkx).later hWb) N
        have HX : Hid (errAll N [wss.getD k []] ≠ 0 → er = 8 ∧ nr = 0) := H8.out k hkx
        have HY : Hid (errAll N [wss.getD k []] = 0 → ∀ j, j < k + 1 → errAll N [wss.getD j []] = 0) := fun hm j hj => by
          rcases Nat.lt_succ_iff_lt_or_eq.1 hj with hj | rfl
          · exact HT.out j hj
          · exact hm
        have HZ : Hid (errAll N [wss.getD k []] = 0 ∨ errAll N [wss.getD k []] = 8) := HE8.out _
        obtain ⟨ao', cap', eu, _⟩ := hW.view
        obtain ⟨u, hu⟩ : ∃ u, u = vs.getD k undef := ⟨_, rfl⟩
        rw [← hu] at hc1 HC
        have hone : u.oneCell' = true := by
          rw [hu, eu]; rfl
        clear hu eu hW hc
        obtain ⟨er1, her1⟩ : ∃ er1, er1 = errAll N [wss.getD k []] := ⟨_, rfl⟩
        rw [← her1] at HC HX HY HZ
        clear her1
        go_wp2_with fail
        refine (HC.out _ hT).mono ?_
        rintro e w1 ⟨rfl, hB⟩
        have hT1 := then_below hT hB
        clear hB hT hc1 HC
        rcases HZ.out with rfl | rfl
        · go_wp2
          go_roundw
          case rel => exact ⟨k + 1, by omega, by go_num, HY.out (by trivial), hT1⟩
          case measure => simp [RowKit.intOf]; omega
        · obtain ⟨rfl, rfl⟩ := HX.out (by decide)
          go_wp2
          go_ret2
          exact ⟨rfl, hT1⟩
      · obtain ⟨rfl, rfl⟩ := H0.out (fun j hj => HT.out j (by omega))
        go_wp2
        go_ret2
        exact ⟨rfl, hT⟩
  · rw [numK, errK_no hd]
    have HMn : Hid (∀ w, Calls Tryd.prog 31 #[A3 d0 d1 d2] w fun e W' => e = .returned (.tuple #[I 0, I 8]) ∧ Below w.heap.size w W') := fun w => many_no w hd
    clear hv hw hd
    go_enter Tryd.func19, Tryd.ntmps19
    have hT0 : Below w.heap.size w (w.alloc (.cells #[I d0, I d1, I d2] 26)) := (Below.refl _ w).alloc (Nat.le_refl _) _
    go_wp2_with fail
    refine (HMn.out _).mono ?_
    rintro e w1 ⟨rfl, hB⟩
    have hT : Below w.heap.size w w1 := then_below hT0 hB
    clear hT0 hB HMn
    go_wp2
    go_ret2
    exact ⟨rfl, hT⟩

set_option maxRecDepth 100000 in
set_option maxHeartbeats 4000000 in
theorem inAny_calls {v : Value} {vs : List Value} {wss : List (List Nat)} {N : Int} (m : Int) (w : World) (hm : 0 ≤ m) (hv : Sl w v vs) (hl : vs.length = wss.length) (hs : vs.length ≤ 2) (hw : ∀ i, i < vs.length → Wds w (vs.getD i undef) (wss.getD i []))
    (he : ∀ i, i < vs.length → errAll N [wss.getD i []] = 0) :
    Calls Tryd.prog 35 #[I N, I m, v] w fun e W' => e = .returned (.tuple #[.bool (anyN wss m), I 0]) ∧ Below w.heap.size w W' := by
  obtain ⟨ao, cap, rfl, hv⟩ := hv
  obtain ⟨ans, hans⟩ : ∃ ans, ans = anyN wss m := ⟨_, rfl⟩
  rw [← hans]
  have H1 : Hid (∀ k, k < vs.length → hasW (wss.getD k []) m.toNat = true → ans = true) := fun k hk hh => by
    rw [hans, anyN, List.any_eq_true]
    exact ⟨wss.getD k [], by rw [List.getD_eq_getElem?_getD, List.getElem?_eq_getElem (by omega)]; exact List.getElem_mem _, hh⟩
  have H0 : Hid ((∀ k, k < vs.length → hasW (wss.getD k []) m.toNat = false) → ans = false) := fun hh => by
    rw [hans, anyN, List.any_eq_false]
    intro ws hws
    obtain ⟨k, hk, rfl⟩ := List.mem_iff_getElem.1 hws
    have := hh k (by omega)
    rw [List.getD_eq_getElem?_getD, List.getElem?_eq_getElem hk] at this
    simp only [Option.getD_some] at this
    rw [this]; decide
  have HV : Hid (∀ k, k < vs.length → ∃ g off, ao = some ⟨g, off, none⟩ ∧ g < w.heap.size ∧ w.cell? ⟨g, off + k, none⟩ = vs[k]?) := hv
  have HW : Hid (∀ i, i < vs.length → Wds w (vs.getD i undef) (wss.getD i [])) := hw
  have HE : Hid (∀ i, i < vs.length → errAll N [wss.getD i []] = 0) := he
  have HM : Hid (0 ≤ m) := hm
  clear hans hv hw he hl hm
  go_enter Tryd.func35, Tryd.ntmps35
  go_wp2
  go_loopw [14] (fun i wr => ∃ k : Nat, k ≤ vs.length ∧ i = .int .i64 k ∧ Hid (∀ j, j < k → hasW (wss.getD j []) m.toNat = false) ∧ Below w.heap.size w wr) (fun i _ => vs.length - (RowKit.intOf i).toNat)
  case atStart => exact ⟨0, by omega, rfl, fun j hj => by omega, Below.refl _ _⟩
  case round =>
    obtain ⟨k, hk, rfl, HT, hT⟩ := hrel
    by_cases hlt : (k : Int) < (vs.length : Int)
    · have hkx : k < vs.length := by omega
      obtain ⟨g, off, rfl, hg, hc⟩ := HV.out k hkx
      have hW := (HW.out k hkx).later hT
      rw [show vs[k]? = some (vs.getD k undef) by simp [hkx]] at hc
      have hc1 := (hT.cell (p := ⟨g, off + k, none⟩) hg).trans hc
      have HC : Hid (∀ W, Below w.heap.size w W → Calls Tryd.prog 48 #[I N, vs.getD k undef, I m] W fun e W' => e = .returned (.tuple #[.bool (hasW (wss.getD k []) m.toNat), I 0]) ∧ Below W.heap.size W W') := fun W hWb => by
        have h1 := hasSet_calls W ((HW.out k hkx).later hWb) N m
        rw [HE.out k hkx, has_own (HE.out k hkx), decide_eq_true HM.out, Bool.true_and] at h1
        exact h1
      have HX : Hid (hasW (wss.getD k []) m.toNat = true → ans = true) := H1.out k hkx
      have HY : Hid (hasW (wss.getD k []) m.toNat = false → ∀ j, j < k + 1 → hasW (wss.getD j []) m.toNat = false) := fun hm j hj => by
        rcases Nat.lt_succ_iff_lt_or_eq.1 hj with hj | rfl
        · exact HT.out j hj
        · exact hm
      obtain ⟨ao', cap', eu, _⟩ := hW.view
      obtain ⟨u, hu⟩ : ∃ u, u = vs.getD k undef := ⟨_, rfl⟩
      rw [← hu] at hc1 HC
      have hone : u.oneCell' = true := by
        rw [hu, eu]; rfl
      clear hu eu hW hc
      obtain ⟨b, hb⟩ : ∃ b, b = hasW (wss.getD k []) m.toNat := ⟨_, rfl⟩
      rw [← hb] at HC HX HY
      clear hb
      go_wp2_with fail
      refine (HC.out _ hT).mono ?_
      rintro e w1 ⟨rfl, hB⟩
      have hT1 := then_below hT hB
      clear hB hT hc1 HC
      cases b
      · go_wp2
        go_roundw
        case rel => exact ⟨k + 1, by omega, by go_num, HY.out (by trivial), hT1⟩
        case measure => simp [RowKit.intOf]; omega
      · obtain rfl := HX.out (by trivial)
        go_wp2
        go_ret2
        exact ⟨rfl, hT1⟩
    · obtain rfl := H0.out (fun j hj => HT.out j (by omega))
      go_wp2
      go_ret2
      exact ⟨rfl, hT⟩

end Go.Proofs.YtbedhpooeabehaaDoor

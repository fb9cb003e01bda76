/-
  score.sides, and what it hands back as a range over it asks: the sides of a midplane. (Written by tools/gen/score_sides.py.)
-/
import Derived.Test.YtbedhpooeabehaaGreatDoorPart1
import Derived.Test.YtbedhpooeabehaaGreatDoorPart7
import Derived.Test.YtbedhpooeabehaaGreatDoorPart8
import Derived.Test.YtbedhpooeabehaaGreatDoorPart4
import Derived.LoopNIn
import Derived.LoopIn
import Derived.TacticsInMore
import Derived.OwnWalkIn
import Derived.Test.YtbedhpooeabehaaGreatDoorPart5
import Derived.Laws.AppendOwn
import Derived.Laws.AppendOwnNone
namespace Go.Proofs.YtbedhpooeabehaaGreatDoor
open Go Go.RowKit Go.Shelf

theorem ixS0 (x y z : Int) (w : World) : (Instr.index 23 (A3 x y z) (.int .i64 0)).run Tryz.prog w = .ok (.int .i64 x) w := by kernel_rfl
theorem ixS1 (x y z : Int) (w : World) : (Instr.index 23 (A3 x y z) (.int .i64 1)).run Tryz.prog w = .ok (.int .i64 y) w := by kernel_rfl
theorem ixS2 (x y z : Int) (w : World) : (Instr.index 23 (A3 x y z) (.int .i64 2)).run Tryz.prog w = .ok (.int .i64 z) w := by kernel_rfl
theorem ixT0 (x y : Int) (w : World) : (Instr.index 83 (.agg #[I x, I y]) (.int .i64 0)).run Tryz.prog w = .ok (.int .i64 x) w := by kernel_rfl
theorem ixT1 (x y : Int) (w : World) : (Instr.index 83 (.agg #[I x, I y]) (.int .i64 1)).run Tryz.prog w = .ok (.int .i64 y) w := by kernel_rfl

attribute [local go_sem] Oper.semAt_some ext_const ixS0 ixS1 ixS2 ixT0 ixT1

set_option maxRecDepth 100000 in
theorem sidesQ_calls (d0 d1 d2 m : Int) (w : World) : Calls Tryz.prog 23 #[A3 d0 d1 d2, I m] w fun e W' => e = .returned (.func (.func 41) #[] #[.pointer (some ⟨w.heap.size, 0, none⟩), .pointer (some ⟨w.heap.size + 1, 0, none⟩)]) ∧ W' = (w.alloc (.cells #[I d0, I d1, I d2] 23)).alloc (.cells #[I m] 3) := by
  go_enter Tryz.func23, Tryz.ntmps23
  go_wp2
  go_ret
  exact ⟨rfl, rfl⟩

abbrev encQ (x : Int) : Array Value := #[I x]
theorem preQ_append {a b c : List Int} (h : b <+: c) : a ++ b <+: a ++ c := (List.prefix_append_right_inj a).2 h
/-- What the iterator keeps for itself. -/
structure SidPv (d0 d1 d2 m : Int) (Bd Bm : Nat) (W : World) : Prop where
  d : Blk W Bd 23 #[I d0, I d1, I d2]
  m : Blk W Bm 3 #[I m]
section
variable {d0 d1 d2 m : Int} {Bd Bm : Nat} {W W' : World}
theorem SidPv.later (h : SidPv d0 d1 d2 m Bd Bm W) (hb : Below W.heap.size W W') : SidPv d0 d1 d2 m Bd Bm W' := ⟨h.d.later hb, h.m.later hb⟩
theorem SidPv.keep {ok : Nat → TypeId → Bool} (h : SidPv d0 d1 d2 m Bd Bm W) (hk : KeepB ok W W') (h1 : ok Bd 23 = true) (h2 : ok Bm 3 = true) : SidPv d0 d1 d2 m Bd Bm W' := ⟨hk.blk h.d h1, hk.blk h.m h2⟩
end

set_option maxRecDepth 100000 in
set_option maxHeartbeats 8000000 in
theorem sidesQ_seq {d0 d1 d2 m : Int} (ok : Nat → TypeId → Bool) {Bd Bm : Nat} (hok1 : ok Bd 23 = true) (hok2 : ok Bm 3 = true) (w : World) (hd : mayD d0 d1 d2) (hm : 0 ≤ m ∧ m < d0 * d1 * d2) (hBd : Blk w Bd 23 #[I d0, I d1, I d2]) (hBm : Blk w Bm 3 #[I m]) :
    SeqB Tryz.prog 41 #[.pointer (some ⟨Bd, 0, none⟩), .pointer (some ⟨Bm, 0, none⟩)] encQ ok (sidesL d0 d1 d2 m) w := fun l J Jx W hW hJ hJx hY h0 => by
  have HY : Hid (∀ (pre : List Int) (x : Int) (W1 : World), pre ++ [x] <+: sidesL d0 d1 d2 m → J pre W1 → YieldAt Fence.wide 0 Tryz.prog l (encQ x) W1 fun e W' => (e = .returned (.bool true) ∧ J (pre ++ [x]) W' ∧ KeepB ok W1 W' ∧ KeepsFrom W.heap.size W1 W') ∨ (e = .returned (.bool false) ∧ Jx (pre ++ [x]) W' ∧ KeepsFrom W.heap.size W1 W')) := hY
  have pv0 : SidPv d0 d1 d2 m Bd Bm W := ⟨hBd.later hW, hBm.later hW⟩
  have HJ : Hid (OwnFrom W.heap.size J ∧ OwnFrom W.heap.size Jx) := ⟨hJ, hJx⟩
  have HO : Hid (ok Bd 23 = true ∧ ok Bm 3 = true) := ⟨hok1, hok2⟩
  have HS : Hid (∀ (k : Fin 3) (by_ : Int) (w : World), Calls Tryz.prog 42 #[A3 d0 d1 d2, I m, I (axI k), I by_] w fun x W' => x = .returned (.tuple #[I (onD d0 d1 d2 m k by_), I 0]) ∧ Below w.heap.size w W') := fun k by_ w => step_yes w hd hm k
  have HL : Hid (sidesL d0 d1 d2 m = twoQ d0 d1 d2 m 0 ++ (twoQ d0 d1 d2 m 1 ++ twoQ d0 d1 d2 m 2)) := rfl
  have HT0 : Hid ((d0 = 1 → twoQ d0 d1 d2 m 0 = []) ∧ (d0 ≠ 1 → twoQ d0 d1 d2 m 0 = [onD d0 d1 d2 m 0 1, onD d0 d1 d2 m 0 (-1)])) := ⟨fun h => if_pos h, fun h => if_neg h⟩
  have HT1 : Hid ((d1 = 1 → twoQ d0 d1 d2 m 1 = []) ∧ (d1 ≠ 1 → twoQ d0 d1 d2 m 1 = [onD d0 d1 d2 m 1 1, onD d0 d1 d2 m 1 (-1)])) := ⟨fun h => if_pos h, fun h => if_neg h⟩
  have HT2 : Hid ((d2 = 1 → twoQ d0 d1 d2 m 2 = []) ∧ (d2 ≠ 1 → twoQ d0 d1 d2 m 2 = [onD d0 d1 d2 m 2 1, onD d0 d1 d2 m 2 (-1)])) := ⟨fun h => if_pos h, fun h => if_neg h⟩
  clear hY hBd hBm hd hm hJ hJx hok1 hok2
  have HS0a : Hid (∀ w : World, Calls Tryz.prog 42 #[A3 d0 d1 d2, I m, I 0, I 1] w fun x W' => x = .returned (.tuple #[I (onD d0 d1 d2 m 0 1), I 0]) ∧ Below w.heap.size w W') := fun w => HS.out 0 1 w
  have HS0b : Hid (∀ w : World, Calls Tryz.prog 42 #[A3 d0 d1 d2, I m, I 0, I (-1)] w fun x W' => x = .returned (.tuple #[I (onD d0 d1 d2 m 0 (-1)), I 0]) ∧ Below w.heap.size w W') := fun w => HS.out 0 (-1) w
  have HS1a : Hid (∀ w : World, Calls Tryz.prog 42 #[A3 d0 d1 d2, I m, I 1, I 1] w fun x W' => x = .returned (.tuple #[I (onD d0 d1 d2 m 1 1), I 0]) ∧ Below w.heap.size w W') := fun w => HS.out 1 1 w
  have HS1b : Hid (∀ w : World, Calls Tryz.prog 42 #[A3 d0 d1 d2, I m, I 1, I (-1)] w fun x W' => x = .returned (.tuple #[I (onD d0 d1 d2 m 1 (-1)), I 0]) ∧ Below w.heap.size w W') := fun w => HS.out 1 (-1) w
  have HS2a : Hid (∀ w : World, Calls Tryz.prog 42 #[A3 d0 d1 d2, I m, I 2, I 1] w fun x W' => x = .returned (.tuple #[I (onD d0 d1 d2 m 2 1), I 0]) ∧ Below w.heap.size w W') := fun w => HS.out 2 1 w
  have HS2b : Hid (∀ w : World, Calls Tryz.prog 42 #[A3 d0 d1 d2, I m, I 2, I (-1)] w fun x W' => x = .returned (.tuple #[I (onD d0 d1 d2 m 2 (-1)), I 0]) ∧ Below w.heap.size w W') := fun w => HS.out 2 (-1) w
  clear HS
  generalize sidesL d0 d1 d2 m = L at *
  generalize twoQ d0 d1 d2 m 0 = T0 at *
  generalize onD d0 d1 d2 m 0 1 = a0 at *
  generalize onD d0 d1 d2 m 0 (-1) = b0 at *
  generalize twoQ d0 d1 d2 m 1 = T1 at *
  generalize onD d0 d1 d2 m 1 1 = a1 at *
  generalize onD d0 d1 d2 m 1 (-1) = b1 at *
  generalize twoQ d0 d1 d2 m 2 = T2 at *
  generalize onD d0 d1 d2 m 2 1 = a2 at *
  generalize onD d0 d1 d2 m 2 (-1) = b2 at *
  refine (callsIn_wide (n := 3)).1 ?_
  refine callsIn_of_wp Tryz.func41 rfl trivial ?_ rfl
  simp only [Tryz.ntmps41, List.size_toArray, List.length_cons, List.length_nil, Nat.reduceAdd, Nat.reduceSub, Array.replicate_succ, Array.replicate_zero, List.push_toArray, List.append_toArray, List.nil_append, List.cons_append]
  obtain ⟨c0, c1, c2, hz⟩ := pv0.d.three (Below.refl _ _)
  gi_wp2
  gi_loopw [11] (fun i wr => ((i = I 0 ∧ Hid (J [] wr)) ∨ (i = I 1 ∧ Hid (J T0 wr)) ∨ (i = I 2 ∧ Hid (J (T0 ++ T1) wr)) ∨ (i = I 3 ∧ Hid (J L wr))) ∧ SidPv d0 d1 d2 m Bd Bm wr) (fun i _ => 3 - (RowKit.intOf i).toNat)
  case atStart => exact ⟨.inl ⟨rfl, h0⟩, pv0⟩
  case round =>
    clear c0 c1 c2 hz h0 pv0
    obtain ⟨hrel, pv1⟩ := hrel
    rcases hrel with ⟨rfl, HJ1⟩ | ⟨rfl, HJ1⟩ | ⟨rfl, HJ1⟩ | ⟨rfl, HJ1⟩
    · have HJ2 : Hid (J ([] : List Int) wr) := HJ1
      clear HJ1
      by_cases h1 : d0 = 1
      · have HJ3 : Hid (J T0 wr) := by
          show J _ _
          have e := HT0.out.1 h1
          have e2 := HJ2.out
          rw [e]
          exact e2
        clear HJ2
        gi_wp2
        go_roundw
        case rel => exact ⟨.inr (.inl (⟨rfl, HJ3⟩)), pv1⟩
        case measure => simp [RowKit.intOf]
      · have HTk : Hid (T0 = [a0, b0]) := HT0.out.2 h1
        have HP1 : Hid (([] : List Int) ++ [a0] <+: L) := by
          show _ <+: _
          rw [HL.out, HTk.out]
          exact ⟨[b0] ++ (T1 ++ T2), by simp⟩
        have HP2 : Hid ((([] : List Int) ++ [a0]) ++ [b0] <+: L) := by
          show _ <+: _
          rw [HL.out, HTk.out]
          exact ⟨T1 ++ T2, by simp⟩
        have HPn : Hid (T0 = (([] : List Int) ++ [a0]) ++ [b0]) := by
          show _ = _
          rw [HTk.out]; rfl
        clear HTk
        gi_wp2
        simp only [show (d0 == 1) = false from by simpa using h1]
        gi_loopw [18] (fun i wr2 => ((i = I 0 ∧ Hid (J ([] : List Int) wr2)) ∨ (i = I 1 ∧ Hid (J (([] : List Int) ++ [a0]) wr2)) ∨ (i = I 2 ∧ Hid (J T0 wr2))) ∧ SidPv d0 d1 d2 m Bd Bm wr2) (fun i _ => 2 - (RowKit.intOf i).toNat)
        case atStart => exact ⟨.inl ⟨rfl, HJ2⟩, pv1⟩
        case round =>
          clear HJ2 pv1
          rename World => wr2
          obtain ⟨hrel, pv2⟩ := hrel
          rcases hrel with ⟨rfl, HJ3⟩ | ⟨rfl, HJ3⟩ | ⟨rfl, HJ3⟩
          · have HJ4 : Hid (J ([] : List Int) wr2) := HJ3
            clear HJ3
            obtain ⟨e0, e1, e2, hez⟩ := pv2.d.three (Below.refl _ _)
            have f0 := pv2.m.cell 0
            have hfz := pv2.m.lt
            simp at f0
            gi_wp2_with fail
            refine ⟨trivial, (callsIn_wide.2 (HS0a.out _)).mono ?_⟩
            rintro e w3 ⟨rfl, hB⟩
            have pv3 := pv2.later hB
            have HJ5 : Hid (J ([] : List Int) w3) := own_below HJ.out.1 HJ4.out hB
            clear e0 e1 e2 hez f0 hfz pv2 HJ4 hB
            obtain ⟨f1, t1, as1, bo1, hy1, hR1⟩ := HY.out ([] : List Int) a0 w3 HP1.out HJ5.out
            dsimp only [encQ] at hy1
            have hR1 := roundIn_any (m := 3 - 1) hR1
            gi_wp2_with fail
            refine hR1.mono ?_
            rintro e W3 (⟨rfl, hJ6, hk6, _⟩ | ⟨rfl, hJx6, _⟩)
            · have pv4 := pv3.keep hk6 HO.out.1 HO.out.2
              have HJ6 : Hid (J (([] : List Int) ++ [a0]) W3) := hJ6
              clear hJ6 hk6 pv3 HJ5
              gi_wp2
              go_roundw
              case rel => exact ⟨.inr (.inl ⟨rfl, HJ6⟩), pv4⟩
              case measure => simp [RowKit.intOf]
            · gi_wp2
              refine bodyPost_ret (results_none rfl _ _ _) rfl ?_
              exact ⟨⟨_, rfl⟩, .inr ⟨_, HP1.out, hJx6⟩⟩
          · have HJ4 : Hid (J (([] : List Int) ++ [a0]) wr2) := HJ3
            clear HJ3
            obtain ⟨e0, e1, e2, hez⟩ := pv2.d.three (Below.refl _ _)
            have f0 := pv2.m.cell 0
            have hfz := pv2.m.lt
            simp at f0
            gi_wp2_with fail
            refine ⟨trivial, (callsIn_wide.2 (HS0b.out _)).mono ?_⟩
            rintro e w3 ⟨rfl, hB⟩
            have pv3 := pv2.later hB
            have HJ5 : Hid (J (([] : List Int) ++ [a0]) w3) := own_below HJ.out.1 HJ4.out hB
            clear e0 e1 e2 hez f0 hfz pv2 HJ4 hB
            obtain ⟨f1, t1, as1, bo1, hy1, hR1⟩ := HY.out (([] : List Int) ++ [a0]) b0 w3 HP2.out HJ5.out
            dsimp only [encQ] at hy1
            have hR1 := roundIn_any (m := 3 - 1) hR1
            gi_wp2_with fail
            refine hR1.mono ?_
            rintro e W3 (⟨rfl, hJ6, hk6, _⟩ | ⟨rfl, hJx6, _⟩)
            · have pv4 := pv3.keep hk6 HO.out.1 HO.out.2
              have HJ6 : Hid (J T0 W3) := (by show J _ _; rw [HPn.out]; exact hJ6)
              clear hJ6 hk6 pv3 HJ5
              gi_wp2
              go_roundw
              case rel => exact ⟨.inr (.inr ⟨rfl, HJ6⟩), pv4⟩
              case measure => simp [RowKit.intOf]
            · gi_wp2
              refine bodyPost_ret (results_none rfl _ _ _) rfl ?_
              exact ⟨⟨_, rfl⟩, .inr ⟨_, HP2.out, hJx6⟩⟩
          · have HJ4 : Hid (J T0 wr2) := HJ3
            clear HJ3
            gi_wp2
            go_roundw
            case rel => exact ⟨.inr (.inl (⟨rfl, HJ4⟩)), pv2⟩
            case measure => simp [RowKit.intOf]
    · have HJ2 : Hid (J T0 wr) := HJ1
      clear HJ1
      by_cases h1 : d1 = 1
      · have HJ3 : Hid (J (T0 ++ T1) wr) := by
          show J _ _
          have e := HT1.out.1 h1
          have e2 := HJ2.out
          rw [e, List.append_nil]
          exact e2
        clear HJ2
        gi_wp2
        go_roundw
        case rel => exact ⟨.inr (.inr (.inl (⟨rfl, HJ3⟩))), pv1⟩
        case measure => simp [RowKit.intOf]
      · have HTk : Hid (T1 = [a1, b1]) := HT1.out.2 h1
        have HP1 : Hid (T0 ++ [a1] <+: L) := by
          show _ <+: _
          rw [HL.out, HTk.out]
          exact ⟨[b1] ++ T2, by simp⟩
        have HP2 : Hid ((T0 ++ [a1]) ++ [b1] <+: L) := by
          show _ <+: _
          rw [HL.out, HTk.out]
          exact ⟨T2, by simp⟩
        have HPn : Hid ((T0 ++ T1) = (T0 ++ [a1]) ++ [b1]) := by
          show _ = _
          rw [HTk.out]; simp
        clear HTk
        gi_wp2
        simp only [show (d1 == 1) = false from by simpa using h1]
        gi_loopw [18] (fun i wr2 => ((i = I 0 ∧ Hid (J T0 wr2)) ∨ (i = I 1 ∧ Hid (J (T0 ++ [a1]) wr2)) ∨ (i = I 2 ∧ Hid (J (T0 ++ T1) wr2))) ∧ SidPv d0 d1 d2 m Bd Bm wr2) (fun i _ => 2 - (RowKit.intOf i).toNat)
        case atStart => exact ⟨.inl ⟨rfl, HJ2⟩, pv1⟩
        case round =>
          clear HJ2 pv1
          rename World => wr2
          obtain ⟨hrel, pv2⟩ := hrel
          rcases hrel with ⟨rfl, HJ3⟩ | ⟨rfl, HJ3⟩ | ⟨rfl, HJ3⟩
          · have HJ4 : Hid (J T0 wr2) := HJ3
            clear HJ3
            obtain ⟨e0, e1, e2, hez⟩ := pv2.d.three (Below.refl _ _)
            have f0 := pv2.m.cell 0
            have hfz := pv2.m.lt
            simp at f0
            gi_wp2_with fail
            refine ⟨trivial, (callsIn_wide.2 (HS1a.out _)).mono ?_⟩
            rintro e w3 ⟨rfl, hB⟩
            have pv3 := pv2.later hB
            have HJ5 : Hid (J T0 w3) := own_below HJ.out.1 HJ4.out hB
            clear e0 e1 e2 hez f0 hfz pv2 HJ4 hB
            obtain ⟨f1, t1, as1, bo1, hy1, hR1⟩ := HY.out T0 a1 w3 HP1.out HJ5.out
            dsimp only [encQ] at hy1
            have hR1 := roundIn_any (m := 3 - 1) hR1
            gi_wp2_with fail
            refine hR1.mono ?_
            rintro e W3 (⟨rfl, hJ6, hk6, _⟩ | ⟨rfl, hJx6, _⟩)
            · have pv4 := pv3.keep hk6 HO.out.1 HO.out.2
              have HJ6 : Hid (J (T0 ++ [a1]) W3) := hJ6
              clear hJ6 hk6 pv3 HJ5
              gi_wp2
              go_roundw
              case rel => exact ⟨.inr (.inl ⟨rfl, HJ6⟩), pv4⟩
              case measure => simp [RowKit.intOf]
            · gi_wp2
              refine bodyPost_ret (results_none rfl _ _ _) rfl ?_
              exact ⟨⟨_, rfl⟩, .inr ⟨_, HP1.out, hJx6⟩⟩
          · have HJ4 : Hid (J (T0 ++ [a1]) wr2) := HJ3
            clear HJ3
            obtain ⟨e0, e1, e2, hez⟩ := pv2.d.three (Below.refl _ _)
            have f0 := pv2.m.cell 0
            have hfz := pv2.m.lt
            simp at f0
            gi_wp2_with fail
            refine ⟨trivial, (callsIn_wide.2 (HS1b.out _)).mono ?_⟩
            rintro e w3 ⟨rfl, hB⟩
            have pv3 := pv2.later hB
            have HJ5 : Hid (J (T0 ++ [a1]) w3) := own_below HJ.out.1 HJ4.out hB
            clear e0 e1 e2 hez f0 hfz pv2 HJ4 hB
            obtain ⟨f1, t1, as1, bo1, hy1, hR1⟩ := HY.out (T0 ++ [a1]) b1 w3 HP2.out HJ5.out
            dsimp only [encQ] at hy1
            have hR1 := roundIn_any (m := 3 - 1) hR1
            gi_wp2_with fail
            refine hR1.mono ?_
            rintro e W3 (⟨rfl, hJ6, hk6, _⟩ | ⟨rfl, hJx6, _⟩)
            · have pv4 := pv3.keep hk6 HO.out.1 HO.out.2
              have HJ6 : Hid (J (T0 ++ T1) W3) := (by show J _ _; rw [HPn.out]; exact hJ6)
              clear hJ6 hk6 pv3 HJ5
              gi_wp2
              go_roundw
              case rel => exact ⟨.inr (.inr ⟨rfl, HJ6⟩), pv4⟩
              case measure => simp [RowKit.intOf]
            · gi_wp2
              refine bodyPost_ret (results_none rfl _ _ _) rfl ?_
              exact ⟨⟨_, rfl⟩, .inr ⟨_, HP2.out, hJx6⟩⟩
          · have HJ4 : Hid (J (T0 ++ T1) wr2) := HJ3
            clear HJ3
            gi_wp2
            go_roundw
            case rel => exact ⟨.inr (.inr (.inl (⟨rfl, HJ4⟩))), pv2⟩
            case measure => simp [RowKit.intOf]
    · have HJ2 : Hid (J (T0 ++ T1) wr) := HJ1
      clear HJ1
      by_cases h1 : d2 = 1
      · have HJ3 : Hid (J L wr) := by
          show J _ _
          have e := HT2.out.1 h1
          have e2 := HJ2.out
          rw [HL.out, e, List.append_nil]
          exact e2
        clear HJ2
        gi_wp2
        go_roundw
        case rel => exact ⟨.inr (.inr (.inr (⟨rfl, HJ3⟩))), pv1⟩
        case measure => simp [RowKit.intOf]
      · have HTk : Hid (T2 = [a2, b2]) := HT2.out.2 h1
        have HP1 : Hid ((T0 ++ T1) ++ [a2] <+: L) := by
          show _ <+: _
          rw [HL.out, HTk.out]
          exact ⟨[b2], by simp⟩
        have HP2 : Hid (((T0 ++ T1) ++ [a2]) ++ [b2] <+: L) := by
          show _ <+: _
          rw [HL.out, HTk.out]
          exact ⟨[], by simp⟩
        have HPn : Hid (L = ((T0 ++ T1) ++ [a2]) ++ [b2]) := by
          show _ = _
          rw [HL.out, HTk.out]; simp
        clear HTk
        gi_wp2
        simp only [show (d2 == 1) = false from by simpa using h1]
        gi_loopw [18] (fun i wr2 => ((i = I 0 ∧ Hid (J (T0 ++ T1) wr2)) ∨ (i = I 1 ∧ Hid (J ((T0 ++ T1) ++ [a2]) wr2)) ∨ (i = I 2 ∧ Hid (J L wr2))) ∧ SidPv d0 d1 d2 m Bd Bm wr2) (fun i _ => 2 - (RowKit.intOf i).toNat)
        case atStart => exact ⟨.inl ⟨rfl, HJ2⟩, pv1⟩
        case round =>
          clear HJ2 pv1
          rename World => wr2
          obtain ⟨hrel, pv2⟩ := hrel
          rcases hrel with ⟨rfl, HJ3⟩ | ⟨rfl, HJ3⟩ | ⟨rfl, HJ3⟩
          · have HJ4 : Hid (J (T0 ++ T1) wr2) := HJ3
            clear HJ3
            obtain ⟨e0, e1, e2, hez⟩ := pv2.d.three (Below.refl _ _)
            have f0 := pv2.m.cell 0
            have hfz := pv2.m.lt
            simp at f0
            gi_wp2_with fail
            refine ⟨trivial, (callsIn_wide.2 (HS2a.out _)).mono ?_⟩
            rintro e w3 ⟨rfl, hB⟩
            have pv3 := pv2.later hB
            have HJ5 : Hid (J (T0 ++ T1) w3) := own_below HJ.out.1 HJ4.out hB
            clear e0 e1 e2 hez f0 hfz pv2 HJ4 hB
            obtain ⟨f1, t1, as1, bo1, hy1, hR1⟩ := HY.out (T0 ++ T1) a2 w3 HP1.out HJ5.out
            dsimp only [encQ] at hy1
            have hR1 := roundIn_any (m := 3 - 1) hR1
            gi_wp2_with fail
            refine hR1.mono ?_
            rintro e W3 (⟨rfl, hJ6, hk6, _⟩ | ⟨rfl, hJx6, _⟩)
            · have pv4 := pv3.keep hk6 HO.out.1 HO.out.2
              have HJ6 : Hid (J ((T0 ++ T1) ++ [a2]) W3) := hJ6
              clear hJ6 hk6 pv3 HJ5
              gi_wp2
              go_roundw
              case rel => exact ⟨.inr (.inl ⟨rfl, HJ6⟩), pv4⟩
              case measure => simp [RowKit.intOf]
            · gi_wp2
              refine bodyPost_ret (results_none rfl _ _ _) rfl ?_
              exact ⟨⟨_, rfl⟩, .inr ⟨_, HP1.out, hJx6⟩⟩
          · have HJ4 : Hid (J ((T0 ++ T1) ++ [a2]) wr2) := HJ3
            clear HJ3
            obtain ⟨e0, e1, e2, hez⟩ := pv2.d.three (Below.refl _ _)
            have f0 := pv2.m.cell 0
            have hfz := pv2.m.lt
            simp at f0
            gi_wp2_with fail
            refine ⟨trivial, (callsIn_wide.2 (HS2b.out _)).mono ?_⟩
            rintro e w3 ⟨rfl, hB⟩
            have pv3 := pv2.later hB
            have HJ5 : Hid (J ((T0 ++ T1) ++ [a2]) w3) := own_below HJ.out.1 HJ4.out hB
            clear e0 e1 e2 hez f0 hfz pv2 HJ4 hB
            obtain ⟨f1, t1, as1, bo1, hy1, hR1⟩ := HY.out ((T0 ++ T1) ++ [a2]) b2 w3 HP2.out HJ5.out
            dsimp only [encQ] at hy1
            have hR1 := roundIn_any (m := 3 - 1) hR1
            gi_wp2_with fail
            refine hR1.mono ?_
            rintro e W3 (⟨rfl, hJ6, hk6, _⟩ | ⟨rfl, hJx6, _⟩)
            · have pv4 := pv3.keep hk6 HO.out.1 HO.out.2
              have HJ6 : Hid (J L W3) := (by show J _ _; rw [HPn.out]; exact hJ6)
              clear hJ6 hk6 pv3 HJ5
              gi_wp2
              go_roundw
              case rel => exact ⟨.inr (.inr ⟨rfl, HJ6⟩), pv4⟩
              case measure => simp [RowKit.intOf]
            · gi_wp2
              refine bodyPost_ret (results_none rfl _ _ _) rfl ?_
              exact ⟨⟨_, rfl⟩, .inr ⟨_, HP2.out, hJx6⟩⟩
          · have HJ4 : Hid (J L wr2) := HJ3
            clear HJ3
            gi_wp2
            go_roundw
            case rel => exact ⟨.inr (.inr (.inr (⟨rfl, HJ4⟩))), pv2⟩
            case measure => simp [RowKit.intOf]
    · have HF : Hid (J L wr) := HJ1
      clear HJ1
      gi_wp2
      go_end0
      exact ⟨⟨_, rfl⟩, .inl HF.out⟩

end Go.Proofs.YtbedhpooeabehaaGreatDoor

/-
  score.check: dimensions and sets that may be; score.inAny: whether a midplane is in any of some sets.
-/
namespace Go.Proofs.YtbedhpooeabehaaGreatDoor
open Go Go.RowKit Go.Shelf

/-- What dimensions and sets that may not be give. -/
def errK (d0 d1 d2 : Int) (wss : List (List Nat)) : Int := if okDB d0 d1 d2 && wss.all (fun ws => maySet (d0 * d1 * d2).toNat ws) then 0 else 8
def numK (d0 d1 d2 : Int) (wss : List (List Nat)) : Int := if errK d0 d1 d2 wss = 0 then d0 * d1 * d2 else 0
theorem errK_may {d0 d1 d2 : Int} (h : mayD d0 d1 d2) (ws : List Nat) : errAll (d0 * d1 * d2) [ws] = if maySet (d0 * d1 * d2).toNat ws then 0 else 8 := by
  have := N_bd h
  unfold errAll
  rw [if_pos (by simp [okN]; omega)]
  simp
theorem errK_no {d0 d1 d2 : Int} (h : ¬ mayD d0 d1 d2) (wss : List (List Nat)) : errK d0 d1 d2 wss = 8 := by
  have : okDB d0 d1 d2 = false := by
    rw [Bool.eq_false_iff]
    intro hc
    exact h ((okDB_iff _ _ _).1 hc)
  simp [errK, this]
theorem errK_one {d0 d1 d2 : Int} (h : mayD d0 d1 d2) {wss : List (List Nat)} {k : Nat} (hk : k < wss.length) (he : errAll (d0 * d1 * d2) [wss.getD k []] ≠ 0) : errK d0 d1 d2 wss = 8 := by
  rw [errK_may h] at he
  have hm : maySet (d0 * d1 * d2).toNat (wss.getD k []) = false := by
    cases hc : maySet (d0 * d1 * d2).toNat (wss.getD k [])
    · rfl
    · rw [hc] at he; exact absurd rfl he
  have : wss.all (fun ws => maySet (d0 * d1 * d2).toNat ws) = false := by
    rw [List.all_eq_false]
    exact ⟨wss.getD k [], by rw [List.getD_eq_getElem?_getD, List.getElem?_eq_getElem hk]; exact List.getElem_mem hk, by simp only [hm]; decide⟩
  simp [errK, this]
theorem errK_ok {d0 d1 d2 : Int} (h : mayD d0 d1 d2) {wss : List (List Nat)} (he : ∀ k, k < wss.length → errAll (d0 * d1 * d2) [wss.getD k []] = 0) : errK d0 d1 d2 wss = 0 := by
  have : wss.all (fun ws => maySet (d0 * d1 * d2).toNat ws) = true := by
    rw [List.all_eq_true]
    intro ws hw
    obtain ⟨k, hk, rfl⟩ := List.mem_iff_getElem.1 hw
    have h1 := he k hk
    rw [errK_may h, List.getD_eq_getElem?_getD, List.getElem?_eq_getElem hk] at h1
    cases hc : maySet (d0 * d1 * d2).toNat wss[k]
    · simp [hc] at h1
    · rfl
  simp [errK, (okDB_iff _ _ _).2 h, this]
theorem errK_zero {d0 d1 d2 : Int} {wss : List (List Nat)} (h : errK d0 d1 d2 wss = 0) : mayD d0 d1 d2 ∧ ∀ ws ∈ wss, errAll (d0 * d1 * d2) [ws] = 0 := by
  unfold errK at h
  split at h
  · rename_i hc
    rw [Bool.and_eq_true] at hc
    have hd := (okDB_iff _ _ _).1 hc.1
    refine ⟨hd, fun ws hw => ?_⟩
    rw [errK_may hd, if_pos (List.all_eq_true.1 hc.2 ws hw)]
  · cases h
theorem errK_cases (d0 d1 d2 : Int) (wss : List (List Nat)) : errK d0 d1 d2 wss = 0 ∨ errK d0 d1 d2 wss = 8 := by
  unfold errK
  split <;> simp

set_option maxRecDepth 100000 in
set_option maxHeartbeats 4000000 in
theorem schk_calls {v : Value} {vs : List Value} {wss : List (List Nat)} (d0 d1 d2 : Int) (w : World) (hv : Sl w v vs) (hl : vs.length = wss.length) (hs : vs.length ≤ 2) (hw : ∀ i, i < vs.length → Wds w (vs.getD i undef) (wss.getD i [])) :
    Calls Tryz.prog 10 #[A3 d0 d1 d2, v] w fun e W' => e = .returned (.tuple #[I (numK d0 d1 d2 wss), I (errK d0 d1 d2 wss)]) ∧ Below w.heap.size w W' := by
  obtain ⟨ao, cap, rfl, hv⟩ := hv
  by_cases hd : mayD d0 d1 d2
  · have hN := N_bd hd
    have HMn : Hid (∀ w, Calls Tryz.prog 20 #[A3 d0 d1 d2] w fun e W' => e = .returned (.tuple #[I (d0 * d1 * d2), I 0]) ∧ Below w.heap.size w W') := fun w => many_yes w hd
    obtain ⟨er, her⟩ : ∃ er, er = errK d0 d1 d2 wss := ⟨_, rfl⟩
    obtain ⟨nr, hnr⟩ : ∃ nr, nr = numK d0 d1 d2 wss := ⟨_, rfl⟩
    rw [← her, ← hnr]
    have H8 : Hid (∀ k, k < vs.length → errAll (d0 * d1 * d2) [wss.getD k []] ≠ 0 → er = 8 ∧ nr = 0) := fun k hk he => by
      have h1 := errK_one hd (by omega : k < wss.length) he
      exact ⟨by rw [her, h1], by rw [hnr, numK, h1]; rfl⟩
    have H0 : Hid ((∀ k, k < vs.length → errAll (d0 * d1 * d2) [wss.getD k []] = 0) → er = 0 ∧ nr = d0 * d1 * d2) := fun he => by
      have h1 := errK_ok hd (wss := wss) (fun k hk => he k (by omega))
      exact ⟨by rw [her, h1], by rw [hnr, numK, h1]; rfl⟩
    have HE8 : Hid (∀ ws : List Nat, errAll (d0 * d1 * d2) [ws] = 0 ∨ errAll (d0 * d1 * d2) [ws] = 8) := fun ws => by
      rw [errK_may hd]; split <;> simp
    have HV : Hid (∀ k, k < vs.length → ∃ g off, ao = some ⟨g, off, none⟩ ∧ g < w.heap.size ∧ w.cell? ⟨g, off + k, none⟩ = vs[k]?) := hv
    have HW : Hid (∀ i, i < vs.length → Wds w (vs.getD i undef) (wss.getD i [])) := hw
    clear her hnr hv hw hd hl
    generalize d0 * d1 * d2 = N at *
    go_enter Tryz.func10, Tryz.ntmps10
    have hT0 : Below w.heap.size w (w.alloc (.cells #[I d0, I d1, I d2] 23)) := (Below.refl _ w).alloc (Nat.le_refl _) _
    go_wp2_with fail
    refine (HMn.out _).mono ?_
    rintro e w1 ⟨rfl, hB⟩
    have hT : Below w.heap.size w w1 := then_below hT0 hB
    clear hT0 hB HMn
    go_wp2
    go_loopw [21] (fun i wr => ∃ k : Nat, k ≤ vs.length ∧ i = .int .i64 k ∧ Hid (∀ j, j < k → errAll N [wss.getD j []] = 0) ∧ Below w.heap.size w wr) (fun i _ => vs.length - (RowKit.intOf i).toNat)
    case atStart => exact ⟨0, by omega, rfl, fun j hj => by omega, hT⟩
    case round =>
      clear hT
      obtain ⟨k, hk, rfl, HT, hT⟩ := hrel
      by_cases hlt : (k : Int) < (vs.length : Int)
      · have hkx : k < vs.length := by omega
        obtain ⟨g, off, rfl, hg, hc⟩ := HV.out k hkx
        have hW := (HW.out k hkx).later hT
        rw [show vs[k]? = some (vs.getD k undef) by simp [hkx]] at hc
        have hc1 := (hT.cell (p := ⟨g, off + k, none⟩) hg).trans hc
        have HC : Hid (∀ W, Below w.heap.size w W → Calls Tryz.prog 21 #[I N, vs.getD k undef] W fun e W' => e = .returned (I (errAll N [wss.getD k []])) ∧ Below W.heap.size W W') := fun W hWb => chk_calls W ((HW.out k hkx).later hWb) N
        have HX : Hid (errAll N [wss.getD k []] ≠ 0 → er = 8 ∧ nr = 0) := H8.out k hkx
        have HY : Hid (errAll N [wss.getD k []] = 0 → ∀ j, j < k + 1 → errAll N [wss.getD j []] = 0) := fun hm j hj => by
          rcases Nat.lt_succ_iff_lt_or_eq.1 hj with hj | rfl
          · exact HT.out j hj
          · exact hm
        have HZ : Hid (errAll N [wss.getD k []] = 0 ∨ errAll N [wss.getD k []] = 8) := HE8.out _
        obtain ⟨ao', cap', eu, _⟩ := hW.view
        obtain ⟨u, hu⟩ : ∃ u, u = vs.getD k undef := ⟨_, rfl⟩
        rw [← hu] at hc1 HC
        have hone : u.oneCell' = true := by
          rw [hu, eu]; rfl
        clear hu eu hW hc
        obtain ⟨er1, her1⟩ : ∃ er1, er1 = errAll N [wss.getD k []] := ⟨_, rfl⟩
        rw [← her1] at HC HX HY HZ
        clear her1
        go_wp2_with fail
        refine (HC.out _ hT).mono ?_
        rintro e w1 ⟨rfl, hB⟩
        have hT1 := then_below hT hB
        clear hB hT hc1 HC
        rcases HZ.out with rfl | rfl
        · go_wp2
          go_roundw
          case rel => exact ⟨k + 1, by omega, by go_num, HY.out (by trivial), hT1⟩
          case measure => simp [RowKit.intOf]; omega
        · obtain ⟨rfl, rfl⟩ := HX.out (by decide)
          go_wp2
          go_ret2
          exact ⟨rfl, hT1⟩
      · obtain ⟨rfl, rfl⟩ := H0.out (fun j hj => HT.out j (by omega))
        go_wp2
        go_ret2
        exact ⟨rfl, hT⟩
  · rw [numK, errK_no hd]
    have HMn : Hid (∀ w, Calls Tryz.prog 20 #[A3 d0 d1 d2] w fun e W' => e = .returned (.tuple #[I 0, I 8]) ∧ Below w.heap.size w W') := fun w => many_no w hd
    clear hv hw hd
    go_enter Tryz.func10, Tryz.ntmps10
    have hT0 : Below w.heap.size w (w.alloc (.cells #[I d0, I d1, I d2] 23)) := (Below.refl _ w).alloc (Nat.le_refl _) _
    go_wp2_with fail
    refine (HMn.out _).mono ?_
    rintro e w1 ⟨rfl, hB⟩
    have hT : Below w.heap.size w w1 := then_below hT0 hB
    clear hT0 hB HMn
    go_wp2
    go_ret2
    exact ⟨rfl, hT⟩

set_option maxRecDepth 100000 in
set_option maxHeartbeats 4000000 in
theorem inAny_calls {v : Value} {vs : List Value} {wss : List (List Nat)} {N : Int} (m : Int) (w : World) (hm : 0 ≤ m) (hv : Sl w v vs) (hl : vs.length = wss.length) (hs : vs.length ≤ 2) (hw : ∀ i, i < vs.length → Wds w (vs.getD i undef) (wss.getD i []))
    (he : ∀ i, i < vs.length → errAll N [wss.getD i []] = 0) :
    Calls Tryz.prog 24 #[I N, I m, v] w fun e W' => e = .returned (.tuple #[.bool (anyN wss m), I 0]) ∧ Below w.heap.size w W' := by
  obtain ⟨ao, cap, rfl, hv⟩ := hv
  obtain ⟨ans, hans⟩ : ∃ ans, ans = anyN wss m := ⟨_, rfl⟩
  rw [← hans]
  have H1 : Hid (∀ k, k < vs.length → hasW (wss.getD k []) m.toNat = true → ans = true) := fun k hk hh => by
    rw [hans, anyN, List.any_eq_true]
    exact ⟨wss.getD k [], by rw [List.getD_eq_getElem?_getD, List.getElem?_eq_getElem (by omega)]; exact List.getElem_mem _, hh⟩
  have H0 : Hid ((∀ k, k < vs.length → hasW (wss.getD k []) m.toNat = false) → ans = false) := fun hh => by
    rw [hans, anyN, List.any_eq_false]
    intro ws hws
    obtain ⟨k, hk, rfl⟩ := List.mem_iff_getElem.1 hws
    have := hh k (by omega)
    rw [List.getD_eq_getElem?_getD, List.getElem?_eq_getElem hk] at this
    simp only [Option.getD_some] at this
    rw [this]; decide
  have HV : Hid (∀ k, k < vs.length → ∃ g off, ao = some ⟨g, off, none⟩ ∧ g < w.heap.size ∧ w.cell? ⟨g, off + k, none⟩ = vs[k]?) := hv
  have HW : Hid (∀ i, i < vs.length → Wds w (vs.getD i undef) (wss.getD i [])) := hw
  have HE : Hid (∀ i, i < vs.length → errAll N [wss.getD i []] = 0) := he
  have HM : Hid (0 ≤ m) := hm
  clear hans hv hw he hl hm
  go_enter Tryz.func24, Tryz.ntmps24
  go_wp2
  go_loopw [14] (fun i wr => ∃ k : Nat, k ≤ vs.length ∧ i = .int .i64 k ∧ Hid (∀ j, j < k → hasW (wss.getD j []) m.toNat = false) ∧ Below w.heap.size w wr) (fun i _ => vs.length - (RowKit.intOf i).toNat)
  case atStart => exact ⟨0, by omega, rfl, fun j hj => by omega, Below.refl _ _⟩
  case round =>
    obtain ⟨k, hk, rfl, HT, hT⟩ := hrel
    by_cases hlt : (k : Int) < (vs.length : Int)
    · have hkx : k < vs.length := by omega
      obtain ⟨g, off, rfl, hg, hc⟩ := HV.out k hkx
      have hW := (HW.out k hkx).later hT
      rw [show vs[k]? = some (vs.getD k undef) by simp [hkx]] at hc
      have hc1 := (hT.cell (p := ⟨g, off + k, none⟩) hg).trans hc
      have HC : Hid (∀ W, Below w.heap.size w W → Calls Tryz.prog 43 #[I N, vs.getD k undef, I m] W fun e W' => e = .returned (.tuple #[.bool (hasW (wss.getD k []) m.toNat), I 0]) ∧ Below W.heap.size W W') := fun W hWb => by
        have h1 := hasSet_calls W ((HW.out k hkx).later hWb) N m
        rw [HE.out k hkx, has_own (HE.out k hkx), decide_eq_true HM.out, Bool.true_and] at h1
        exact h1
      have HX : Hid (hasW (wss.getD k []) m.toNat = true → ans = true) := H1.out k hkx
      have HY : Hid (hasW (wss.getD k []) m.toNat = false → ∀ j, j < k + 1 → hasW (wss.getD j []) m.toNat = false) := fun hm j hj => by
        rcases Nat.lt_succ_iff_lt_or_eq.1 hj with hj | rfl
        · exact HT.out j hj
        · exact hm
      obtain ⟨ao', cap', eu, _⟩ := hW.view
      obtain ⟨u, hu⟩ : ∃ u, u = vs.getD k undef := ⟨_, rfl⟩
      rw [← hu] at hc1 HC
      have hone : u.oneCell' = true := by
        rw [hu, eu]; rfl
      clear hu eu hW hc
      obtain ⟨b, hb⟩ : ∃ b, b = hasW (wss.getD k []) m.toNat := ⟨_, rfl⟩
      rw [← hb] at HC HX HY
      clear hb
      go_wp2_with fail
      refine (HC.out _ hT).mono ?_
      rintro e w1 ⟨rfl, hB⟩
      have hT1 := then_below hT hB
      clear hB hT hc1 HC
      cases b
      · go_wp2
        go_roundw
        case rel => exact ⟨k + 1, by omega, by go_num, HY.out (by trivial), hT1⟩
        case measure => simp [RowKit.intOf]; omega
      · obtain rfl := HX.out (by trivial)
        go_wp2
        go_ret2
        exact ⟨rfl, hT1⟩
    · obtain rfl := H0.out (fun j hj => HT.out j (by omega))
      go_wp2
      go_ret2
      exact ⟨rfl, hT⟩

end Go.Proofs.YtbedhpooeabehaaGreatDoor

/-
  Lists of whole numbers: a list behind another one, and two numbers behind a list.
-/
namespace Go.Proofs.YtbedhpooeabehaaGreatDoor
open Go Go.RowKit Go.Shelf

/-- 'list = append(list, x, y)', the list a call's own. -/
theorem wpList_app2 {ops : Array Oper} {rest : List Oper} {o : Oper} {a : Act} {Q : Exit → Act → World → Prop} {W : World} {base : Nat} {v : Value} {xs : List Int} {y z : Int} (hgd : o.guard = none) (s x : Operand)
    (ho : o.op = .call { callee := .builtin .append, args := #[s, x], argTypes := #[57, 57] }) (hs : a.eval s = v) (hx : a.eval x = .slice (some ⟨W.heap.size, 0, none⟩) 2 2)
    (hown : Lst W base v xs) (hl : xs.length ≤ 100000) (hb : base ≤ W.heap.size)
    (h : ∀ v' w', Lst w' base v' (xs ++ [y, z]) → Below base W w' → wpList Tryz.prog ops Q rest (a.put o.dst v') w') : wpList Tryz.prog ops Q (o :: rest) a (W.alloc (.cells #[.int .i64 y, .int .i64 z] 3)) := by
  obtain ⟨i0, hi, hz0, hz1, hz2⟩ := info_parts info_int
  refine wpList_append_own (w := W.alloc (.cells #[.int .i64 y, .int .i64 z] 3)) hgd s x 57 ho base 3 i0 (.int .i64 0) 1 8 Tryz.underlying57 hi hz0 hz1 hz2 rfl (by decide) v xs.length _ hs (hown.alloc _) ⟨W.heap.size, 0, none⟩ 2 2 [.int .i64 y, .int .i64 z] hx rfl ?_ ?_ ?_ ?_ ?_ ?_
  · intro j u hj
    match j, hj with
    | 0, hj => simp at hj; subst hj; simp [Addr.add]
    | 1, hj => simp at hj; subst hj; simp [Addr.add]
  · intro u hu; simp at hu; rcases hu with rfl | rfl <;> rfl
  · unfold maxLen; omega
  · omega
  · simp; omega
  · intro v' w1 hown' hgrow _
    refine h v' w1 ?_ ?_
    · unfold Lst
      rw [List.map_append, List.length_append]
      exact hown'
    · exact ((Below.refl base W).alloc hb _).grown hgrow (by simp; omega) (fun k hk => (World.ownsRow.lt hown k hk).1)

/-- 'list = append(list, more...)', both lists a call's own. -/
theorem wpList_cat {ops : Array Oper} {rest : List Oper} {o : Oper} {a : Act} {Q : Exit → Act → World → Prop} {W : World} {base b2 : Nat} {v u : Value} {xs ys : List Int} (hgd : o.guard = none) (s x : Operand)
    (ho : o.op = .call { callee := .builtin .append, args := #[s, x], argTypes := #[57, 57] }) (hs : a.eval s = v) (hx : a.eval x = u)
    (hown : Lst W base v xs) (hu : Lst W b2 u ys) (hl : xs.length ≤ 100000) (hl2 : ys.length ≤ 100000) (hb : base ≤ W.heap.size)
    (h : ∀ v' w', Lst w' base v' (xs ++ ys) → Below base W w' → wpList Tryz.prog ops Q rest (a.put o.dst v') w') : wpList Tryz.prog ops Q (o :: rest) a W := by
  obtain ⟨i0, hi, hz0, hz1, hz2⟩ := info_parts info_int
  have hv := hu.view
  rcases hu.2 with ⟨rfl, hn⟩ | ⟨g, cap, cur, rfl, hg, hh, hc, hc2, hs2, ht⟩
  · have : ys = [] := List.length_eq_zero_iff.1 hn
    subst this
    rw [List.append_nil] at h
    exact wpList_append_own_none hgd s x 57 ho base 3 i0 1 Tryz.underlying57 hi v xs.length _ hs hown hx (h _ _ hown (Below.refl _ _))
  · refine wpList_append_own (w := W) hgd s x 57 ho base 3 i0 (.int .i64 0) 1 8 Tryz.underlying57 hi hz0 hz1 hz2 rfl (by decide) v xs.length _ hs hown ⟨g, 0, none⟩ ys.length cap (ys.map (Value.int .i64)) hx (by simp) ?_ ?_ ?_ ?_ ?_ ?_
    · intro j y hj
      have hjl : j < ys.length := by
        have := (List.getElem?_eq_some_iff.1 hj).1
        simpa using this
      obtain ⟨ao, c, e, hw⟩ := hv
      simp only [Value.slice.injEq] at e
      obtain ⟨rfl, -, -⟩ := e
      obtain ⟨g', cur', e, hB, hc'⟩ := hw j hjl
      simp only [Option.some.injEq, Addr.mk.injEq] at e
      obtain ⟨rfl, -, -⟩ := e
      have : (⟨g, 0, none⟩ : Addr).add j = ⟨g, j, none⟩ := by
        unfold Addr.add
        split
        · rename_i h0; subst h0; rfl
        · simp
      rw [this, hB.cell j, hc', ← hj]
      simp [hjl]
    · intro y hy
      obtain ⟨z, _, rfl⟩ := List.mem_map.1 hy
      rfl
    · unfold maxLen; omega
    · omega
    · omega
    · intro v' w1 hown' hgrow _
      refine h v' w1 ?_ ?_
      · unfold Lst
        rw [List.map_append, List.length_append]
        exact hown'
      · exact (Below.refl base W).grown hgrow hb (fun k hk => (World.ownsRow.lt hown k hk).1)

end Go.Proofs.YtbedhpooeabehaaGreatDoor

/-
  A list behind another one, while a third one stays: where the longer list lies.
-/
namespace Go.Proofs.YtbedhpooeabehaaGreatDoor
open Go Go.RowKit Go.Shelf

/-- What is appended to lies where it lay, or in new memory. -/
theorem cat_row {W : World} {base : Nat} {v : Value} {xs : List Int} {news : List Value} {ad : Addr} {c : Nat} (ty : TypeId) {i : TypeInfo} (hi : Tryz.prog.info? 3 = some i) (hz0 : i.zero = some (.int .i64 0)) (hz1 : i.size = 1) (hz2 : i.bytes = 8)
    (hown : Lst W base v xs) (hnews : ∀ j u, news[j]? = some u → W.cell? (ad.add j) = some u) (h1 : ∀ u ∈ news, u.oneCell' = true) (hlen : xs.length + news.length ≤ 1000000) {v' : Value} {w' : World}
    (hr : (Builtin.append_ #[57, 57] ty #[v, .slice (some ad) news.length c]).run Tryz.prog W = .ok v' w') : ∀ g, v'.ownBlock = some g → v.ownBlock = some g ∨ W.heap.size ≤ g := by
  intro g hg
  have ht := Tryz.underlying57
  have hl : news.length = news.length * i.size := by rw [hz1, Nat.mul_one]
  obtain ⟨hx, hown⟩ := hown
  rcases hown with ⟨rfl, hn⟩ | ⟨g0, cap, cur, rfl, hbg, hg0, hnc, hcm, hcs, htake⟩
  · by_cases hm : news.length = 0
    · have hn : news = [] := List.eq_nil_of_length_eq_zero hm
      subst hn
      have hr' : (Builtin.append_ #[57, 57] ty #[.slice none 0 0, .slice (some ad) 0 c]).run Tryz.prog W = .ok (.slice none 0 0) W := by
        simp [Builtin.append_, run_underlying ht, sizeOf, typeInfo, hi, Builtin.lenOf, Builtin.firstCells, loadCells, loadCellsFrom]
      rw [List.length_nil, hr'] at hr
      simp only [Result.ok.injEq] at hr
      rw [← hr.1] at hg
      simp [Value.ownBlock] at hg
    · have hr' := run_append_nil (P := Tryz.prog) W 57 ty 3 i _ ht hi hz0 ad news.length c news hl hnews (by omega) (by omega) (by rw [hz2]; omega)
      rw [hr'] at hr
      simp only [Result.ok.injEq] at hr
      rw [← hr.1] at hg
      simp [Value.ownBlock] at hg
      exact .inr (by omega)
  · by_cases hroom : xs.length + news.length ≤ cap
    · have hr' := run_append_room (P := Tryz.prog) W 57 ty 3 i ht hi g0 xs.length cap cur hg0 ad news.length c news hl hnews h1 hroom (by rw [hz1, hcs]; omega)
      rw [hr'] at hr
      simp only [Result.ok.injEq] at hr
      rw [← hr.1] at hg
      exact .inl hg
    · have holds : ∀ j u, (xs.map (Value.int .i64))[j]? = some u → W.cell? ((⟨g0, 0, none⟩ : Addr).add j) = some u :=
        World.ownsRow.cells (base := base) (v := .slice (some ⟨g0, 0, none⟩) xs.length cap) ⟨hx, .inr ⟨g0, cap, cur, rfl, hbg, hg0, hnc, hcm, hcs, htake⟩⟩ (g := g0) rfl
      have hr' := run_append_grow (P := Tryz.prog) W 57 ty 3 i _ ht hi hz0 ⟨g0, 0, none⟩ xs.length cap (xs.map (Value.int .i64)) (by rw [hz1]; exact hx) holds ad news.length c news hl hnews (by omega) (by omega) (growslice_fits (by omega) (by rw [hz2]; omega))
      rw [hr'] at hr
      simp only [Result.ok.injEq] at hr
      rw [← hr.1] at hg
      simp [Value.ownBlock] at hg
      exact .inr (by omega)

/-- A list that does not lie where another one does. -/
def Beside (u v : Value) : Prop := ∀ g, u.ownBlock = some g → v.ownBlock ≠ some g
theorem Beside.of_old {W : World} {b n : Nat} {u v : Value} {xs ys : List Int} (hu : Lst W n u xs) {w : World} (hv : Lst w b v ys) (hn : w.heap.size ≤ n) : Beside u v := fun g hg hv' => by
  have h1 := (World.ownsRow.lt hu g hg).1
  have h2 := (World.ownsRow.lt hv g hv').2
  omega

/-- 'list = append(list, more...)', both lists a call's own; a third one stays as it is. -/
theorem wpList_catK {ops : Array Oper} {rest : List Oper} {o : Oper} {a : Act} {Q : Exit → Act → World → Prop} {W : World} {base b2 b3 : Nat} {v u k : Value} {xs ys zs : List Int} (hgd : o.guard = none) (s x : Operand)
    (ho : o.op = .call { callee := .builtin .append, args := #[s, x], argTypes := #[57, 57] }) (hs : a.eval s = v) (hx : a.eval x = u)
    (hown : Lst W base v xs) (hu : Lst W b2 u ys) (hk : Lst W b3 k zs) (hkv : Beside k v) (hl : xs.length ≤ 100000) (hl2 : ys.length ≤ 100000) (hb : base ≤ W.heap.size)
    (h : ∀ v' w', Lst w' base v' (xs ++ ys) → Lst w' b3 k zs → Beside k v' → Below base W w' → wpList Tryz.prog ops Q rest (a.put o.dst v') w') : wpList Tryz.prog ops Q (o :: rest) a W := by
  obtain ⟨i0, hi, hz0, hz1, hz2⟩ := info_parts info_int
  have hv := hu.view
  rcases hu.2 with ⟨rfl, hn⟩ | ⟨g, cap, cur, rfl, hg, hh, hc, hc2, hs2, ht⟩
  · have : ys = [] := List.length_eq_zero_iff.1 hn
    subst this
    rw [List.append_nil] at h
    exact wpList_append_own_none hgd s x 57 ho base 3 i0 1 Tryz.underlying57 hi v xs.length _ hs hown hx (h _ _ hown hk hkv (Below.refl _ _))
  · have hnews : ∀ j y, (ys.map (Value.int .i64))[j]? = some y → W.cell? ((⟨g, 0, none⟩ : Addr).add j) = some y := by
      intro j y hj
      have hjl : j < ys.length := by
        have := (List.getElem?_eq_some_iff.1 hj).1
        simpa using this
      obtain ⟨ao, c, e, hw⟩ := hv
      simp only [Value.slice.injEq] at e
      obtain ⟨rfl, -, -⟩ := e
      obtain ⟨g', cur', e, hB, hc'⟩ := hw j hjl
      simp only [Option.some.injEq, Addr.mk.injEq] at e
      obtain ⟨rfl, -, -⟩ := e
      have : (⟨g, 0, none⟩ : Addr).add j = ⟨g, j, none⟩ := by
        unfold Addr.add
        split
        · rename_i h0; subst h0; rfl
        · simp
      rw [this, hB.cell j, hc', ← hj]
      simp [hjl]
    have hone : ∀ y ∈ ys.map (Value.int .i64), y.oneCell' = true := by
      intro y hy
      obtain ⟨z, _, rfl⟩ := List.mem_map.1 hy
      rfl
    have hlm : (ys.map (Value.int .i64)).length = ys.length := by simp
    obtain ⟨v', w', hr, h2, h3, h4⟩ := run_append_own (P := Tryz.prog) W base 57 o.type 3 i0 (.int .i64 0) 1 8 Tryz.underlying57 hi hz0 hz1 hz2 rfl (by decide) v xs.length (xs.map (Value.int .i64)) hown ⟨g, 0, none⟩ ys.length cap (ys.map (Value.int .i64)) (by simp) hnews hone (by unfold maxLen; omega) (by omega) hb
    have hrow := cat_row (W := W) (v := v) (news := ys.map (Value.int .i64)) (c := cap) (ad := ⟨g, 0, none⟩) o.type hi hz0 hz1 hz2 hown hnews hone (by rw [hlm]; omega) (v' := v') (w' := w') (by rw [hlm]; exact hr)
    refine wpList_plain hgd fun K hK => ?_
    unfold Oper.wp execOp
    simp only [ho, resolve, invoke, builtin, Sem.run_bind, Sem.run_pure, Result.andThen_ok, List.map_toArray, List.map_cons, List.map_nil, hs, hx, hr]
    refine hK _ _ (h v' w' ?_ ?_ ?_ ?_)
    · unfold Lst
      rw [List.map_append, List.length_append]
      exact h2
    · refine World.ownsRow.kept hk h3 ?_
      cases e : k.ownBlock
      · exact .inl rfl
      · exact .inr fun e' => hkv _ e e'.symm
    · intro g' hg' hv'
      rcases hrow g' hv' with e | e
      · exact hkv _ hg' e
      · have := (World.ownsRow.lt hk g' hg').2
        omega
    · exact (Below.refl base W).grown h3 hb (fun k hk => (World.ownsRow.lt hown k hk).1)

/-- A cell below is written. -/
theorem Lst.store {W : World} {base : Nat} {v : Value} {xs : List Int} (h : Lst W base v xs) {B i : Nat} (hB : B < base) (u : Value) : Lst (W.setCell ⟨B, i, none⟩ u) base v xs := ownsRow_setCell_below h (a := ⟨B, i, none⟩) hB u

end Go.Proofs.YtbedhpooeabehaaGreatDoor

/-
  tidehallref12.may, Of. (Written by tools/gen/spots_ref_of.py.)
-/
import Derived.Test.YtlahfffgmfjpaaaGreatDoorPart31
import Derived.Test.YtlahfffgmfjpaaaGreatDoorPart32
import Derived.Test.YtlahfffgmfjpaaaGreatDoorPart5
import Derived.Test.YtlahfffgmfjpaaaGreatDoorPart10
import Derived.Test.YtlahfffgmfjpaaaGreatDoorPart13
namespace Go.Proofs.YtlahfffgmfjpaaaGreatDoor
open Go Go.RowKit Go.Shelf Go.Maps

attribute [local go_sem] Oper.semAt_some ext_const ixI0 ixI1 ixI2
attribute [local go_sem high] eq_place

set_option maxRecDepth 100000 in
set_option maxHeartbeats 4000000 in
theorem smay_calls (d0 d1 d2 x y z : Int) (f g h t : Bool) (w : World) :
    Calls Tryz.prog 21 #[A3 d0 d1 d2, V7 x y z f g h t] w fun e W' => e = .returned (.bool (okDB d0 d1 d2 && okDB x y z)) ∧ Below w.heap.size w W' := by
  obtain ⟨W, hW, hB0, k0, k1⟩ := two_start w #[I d0, I d1, I d2] #[I x, I y, I z, .bool f, .bool g, .bool h, .bool t] 23 26
  have HW : Hid ((w.alloc (.cells #[I d0, I d1, I d2] 23)).alloc (.cells #[I x, I y, I z, .bool f, .bool g, .bool h, .bool t] 26) = W) := hW
  clear hW
  obtain ⟨a0, a1, a2, az⟩ := k0.three (Below.refl _ _)
  by_cases hd : mayD d0 d1 d2
  · have HM : Hid (∀ w, Calls Tryz.prog 50 #[A3 d0 d1 d2] w fun e W' => e = .returned (.bool true) ∧ Below w.heap.size w W') := fun w => rmay_yes w hd
    have HN : Hid (∀ w, Calls Tryz.prog 51 #[V7 x y z f g h t] w fun e W' => e = .returned (.bool (okDB x y z)) ∧ Below w.heap.size w W') := fun w => by
      by_cases hm : mayD x y z
      · rw [(okDB_iff _ _ _).2 hm]; exact wmay_yes w hm
      · rw [show okDB x y z = false by rw [← Bool.not_eq_true, okDB_iff]; exact hm]; exact wmay_no w hm
    rw [(okDB_iff _ _ _).2 hd, Bool.true_and]
    clear hd
    generalize okDB x y z = ans at *
    go_enter Tryz.func21, Tryz.ntmps21
    go_wp2_with fail
    rw [HW.out]
    refine (HM.out _).mono ?_
    rintro e w1 ⟨rfl, hB⟩
    have hT := then_below hB0 hB
    replace k1 := k1.later hB
    clear hB hB0 HW HM a0 a1 a2 az k0 W
    obtain ⟨s0, s1, s2, s3, s4, s5, s6⟩ := k1.seven
    have sz := k1.lt
    go_wp2_with fail
    refine (HN.out _).mono ?_
    rintro e w2 ⟨rfl, hB⟩
    replace hT := then_below hT hB
    clear hB s0 s1 s2 s3 s4 s5 s6 sz k1 HN
    cases ans <;> (go_wp2; go_ret; exact ⟨rfl, hT⟩)
  · have HM : Hid (∀ w, Calls Tryz.prog 50 #[A3 d0 d1 d2] w fun e W' => e = .returned (.bool false) ∧ Below w.heap.size w W') := fun w => rmay_no w hd
    rw [show okDB d0 d1 d2 = false by rw [← Bool.not_eq_true, okDB_iff]; exact hd, Bool.false_and]
    clear hd
    go_enter Tryz.func21, Tryz.ntmps21
    go_wp2_with fail
    rw [HW.out]
    refine (HM.out _).mono ?_
    rintro e w1 ⟨rfl, hB⟩
    have hT := then_below hB0 hB
    clear hB hB0 HW HM a0 a1 a2 az k0 k1 W
    go_wp2
    go_ret
    exact ⟨rfl, hT⟩

/-- Is a rotation along an axis as a place? -/
def axT (x : Int) (p : Bool) (a : Int) (q : Bool) : Bool := decide (x = a) && ((p && decide (1 < x)) == q)
theorem kind_ax (x y z : Int) (p q r t : Bool) (b : Bx) (p' q' r' : Bool) : decide (kindT (x, y, z, p, q, r, t) = kdP (b, p', q', r')) = (axT x p b.a p' && axT y q b.b q' && axT z r b.c r') := by
  rw [Bool.eq_iff_iff, decide_eq_true_eq]
  simp [kindT, kdP, axT]
  constructor
  · rintro ⟨rfl, rfl, rfl, h1, h2, h3⟩
    exact ⟨⟨⟨rfl, h1⟩, rfl, h2⟩, rfl, h3⟩
  · rintro ⟨⟨⟨rfl, h1⟩, rfl, h2⟩, rfl, h3⟩
    exact ⟨rfl, rfl, rfl, h1, h2, h3⟩
/-- The first n axes. -/
def axN (c0 c1 c2 : Bool) : Nat → Bool
  | 0 => true
  | 1 => c0
  | 2 => c0 && c1
  | _ => c0 && c1 && c2

set_option maxRecDepth 100000 in
set_option maxHeartbeats 16000000 in
theorem sof_calls (x y z : Int) (f g h t : Bool) (b : Bx) (p q r : Bool) (w : World) (hm : mayT (x, y, z, f, g, h, t)) :
    Calls Tryz.prog 29 #[V7 x y z f g h t, P9 b p q r] w fun e W' => e = .returned (.bool (isT (turnsT (x, y, z, f, g, h, t)) (b, p, q, r))) ∧ Below w.heap.size w W' := by
  have mixed : Tryz.prog.follows .mixedOrders = true := by kernel_rfl
  have HTu : Hid (∀ w, Calls Tryz.prog 30 #[V7 x y z f g h t] w fun e W' => ∃ v, e = .returned v ∧ Wl W' w.heap.size v (turnsT (x, y, z, f, g, h, t)) ∧ Below w.heap.size w W') := fun w => turns_calls w (mayT_D.1 hm)
  have HTn : Hid ((turnsT (x, y, z, f, g, h, t)).length ≤ 1000) := (by have := turns_six hm; show _ ≤ _; omega)
  have HI1 : Hid (∀ i, i < (turnsT (x, y, z, f, g, h, t)).length → decide (kindT ((turnsT (x, y, z, f, g, h, t)).getD i default) = kdP (b, p, q, r)) = true → isT (turnsT (x, y, z, f, g, h, t)) (b, p, q, r) = true) := fun i hi hk => isT_iff.2 ⟨_, by simp [hi], of_decide_eq_true hk⟩
  have HI0 : Hid ((∀ i, i < (turnsT (x, y, z, f, g, h, t)).length → decide (kindT ((turnsT (x, y, z, f, g, h, t)).getD i default) = kdP (b, p, q, r)) = false) → isT (turnsT (x, y, z, f, g, h, t)) (b, p, q, r) = false) := fun hno => by
    rw [← Bool.not_eq_true, isT_iff]
    rintro ⟨u, hu, e⟩
    obtain ⟨i, hi, rfl⟩ := List.getElem_of_mem hu
    have := of_decide_eq_false (hno i hi)
    simp [hi] at this
    exact this e
  clear hm
  generalize isT (turnsT (x, y, z, f, g, h, t)) (b, p, q, r) = ans at *
  generalize turnsT (x, y, z, f, g, h, t) = Ts at *
  obtain ⟨W, hW, hB0, k0, k1⟩ := two_start w #[I x, I y, I z, .bool f, .bool g, .bool h, .bool t] (C9 b p q r) 26 32
  have HW : Hid ((w.alloc (.cells #[I x, I y, I z, .bool f, .bool g, .bool h, .bool t] 26)).alloc (.cells (C9 b p q r) 32) = W) := hW
  clear hW
  obtain ⟨s0, s1, s2, s3, s4, s5, s6⟩ := k0.seven
  have sz := k0.lt
  go_enter Tryz.func29, Tryz.ntmps29
  go_wp2_with fail
  rw [HW.out]
  refine (HTu.out _).mono ?_
  rintro e w1 ⟨v, rfl, hT0, hB⟩
  obtain ⟨to, tc, rfl, hvw⟩ := hT0.view
  clear hvw
  have HP : Hid (Wl w1 W.heap.size (.slice to Ts.length tc) Ts ∧ Blk w1 (w.heap.size + 1) 32 (C9 b p q r) ∧ Below w.heap.size w w1) := ⟨hT0, k1.later hB, then_below hB0 hB⟩
  clear hT0 hB hB0 k0 k1 s0 s1 s2 s3 s4 s5 s6 sz HW HTu
  generalize W.heap.size = n1 at *
  clear W
  have hTl : Ts.length ≤ 1000 := HTn.out
  go_wp2
  go_loopw [6] (fun v wr => ∃ (i : Nat), i ≤ Ts.length ∧ v = .int .i64 i ∧ Hid (∀ j, j < i → decide (kindT (Ts.getD j default) = kdP (b, p, q, r)) = false) ∧ Hid (Wl wr n1 (.slice to Ts.length tc) Ts ∧ Blk wr (w.heap.size + 1) 32 (C9 b p q r) ∧ Below w.heap.size w wr)) (fun v _ => Ts.length - (RowKit.intOf v).toNat)
  case atStart => exact ⟨0, by omega, rfl, fun j hj => absurd hj (Nat.not_lt_zero j), HP.out⟩
  case round =>
    clear HP w1
    obtain ⟨i, hi, rfl, HNo, HP⟩ := hrel
    by_cases hlt : (i : Int) < (Ts.length : Int)
    · have hi2 : i < Ts.length := by omega
      obtain ⟨gT, x1, y1, z1, p1, q1, r1, t1, rfl, hx, hat⟩ := Wl.at HP.out.1 hi2
      have HAt : Hid (∀ W', Wl W' n1 (.slice (some ⟨gT, 0, none⟩) Ts.length tc) Ts → At7 W' gT (i * 7) (x1, y1, z1, p1, q1, r1, t1)) := fun W' hL' => by
        obtain ⟨g2, x', y', z', p', q', r', t', hao2, hy2, hat2⟩ := Wl.at hL' hi2
        rw [hx] at hy2
        simp only [Prod.mk.injEq] at hy2
        obtain ⟨rfl, rfl, rfl, rfl, rfl, rfl, rfl⟩ := hy2
        have : gT = g2 := by simpa using hao2
        rw [this]
        exact hat2
      have HIi : Hid (decide (kindT (Ts.getD i default) = kdP (b, p, q, r)) = true → ans = true) := HI1.out i hi2
      have HKd : Hid (decide (kindT (Ts.getD i default) = kdP (b, p, q, r)) = axN (axT x1 p1 b.a p) (axT y1 q1 b.b q) (axT z1 r1 b.c r) 3) := by
        show _ = _
        rw [hx, kind_ax]
        rfl
      have HNi : Hid (decide (kindT (Ts.getD i default) = kdP (b, p, q, r)) = false → ∀ j, j < i + 1 → decide (kindT (Ts.getD j default) = kdP (b, p, q, r)) = false) := fun h j hj => by
        by_cases e : j = i
        · rw [e]; exact h
        · exact HNo.out j (by omega)
      clear hx hat HNo
      generalize decide (kindT (Ts.getD i default) = kdP (b, p, q, r)) = kd at *
      have H0 : Hid (axT x1 p1 b.a p = (decide (x1 = b.a) && ((p1 && decide (1 < x1)) == p))) := rfl
      have H1 : Hid (axT y1 q1 b.b q = (decide (y1 = b.b) && ((q1 && decide (1 < y1)) == q))) := rfl
      have H2 : Hid (axT z1 r1 b.c r = (decide (z1 = b.c) && ((r1 && decide (1 < z1)) == r))) := rfl
      generalize axT x1 p1 b.a p = A0 at *
      generalize axT y1 q1 b.b q = A1 at *
      generalize axT z1 r1 b.c r = A2 at *
      go_wp2
      go_loopw [7, 8] (fun u v wr => ∃ (k : Nat), k ≤ 3 ∧ v = .int .i64 k ∧ u = .bool (axN A0 A1 A2 k) ∧ Hid (Wl wr n1 (.slice (some ⟨gT, 0, none⟩) Ts.length tc) Ts ∧ Blk wr (w.heap.size + 1) 32 (C9 b p q r) ∧ Below w.heap.size w wr)) (fun _ v _ => 3 - (RowKit.intOf v).toNat)
      case atStart => exact ⟨0, by omega, rfl, rfl, HP.out⟩
      case round =>
        clear HP
        rename World => wr
        obtain ⟨k, hk, rfl, rfl, HP⟩ := hrel
        obtain ⟨e0, e1, e2, e3, e4, e5, e6⟩ := At7.ext (HAt.out wr HP.out.1)
        obtain ⟨f0, f1, f2, f3, f4, f5, f6, f7, f8⟩ := ext9 HP.out.2.1
        rcases show k = 0 ∨ k = 1 ∨ k = 2 ∨ k = 3 by omega with rfl | rfl | rfl | rfl
        · generalize hs : axN A0 A1 A2 0 = sk at *
          have HN0 : Hid (A0 = false → axN A0 A1 A2 1 = false) := fun h => by cases A0 <;> cases A1 <;> cases A2 <;> simp_all [axN]
          have HN1 : Hid (A0 = true → axN A0 A1 A2 1 = sk) := fun h => by rw [← hs]; cases A0 <;> cases A1 <;> cases A2 <;> simp_all [axN]
          clear hs
          by_cases hq : x1 = b.a
          · have hq' : (x1 != b.a) = false := by simpa using hq
            cases hp : p1
            · cases hc : (false == p)
              · have HR : Hid (axN A0 A1 A2 1 = false) := HN0.out (by rw [H0.out, hp, Bool.false_and, hc, Bool.and_false])
                rw [hp] at e3
                clear HN0 HN1 hq hp
                go_wp2_with fail
                refine wp_region_look mixed (by kernel_rfl) ?_
                repeat (go_big_quiet_step (fail))
                refine wpQuiet_nil ?_
                intro X
                have HP2 : Hid (Wl X.wd n1 (.slice (some ⟨gT, 0, none⟩) Ts.length tc) Ts ∧ Blk X.wd (w.heap.size + 1) 32 (C9 b p q r) ∧ Below w.heap.size w X.wd) := ⟨HP.out.1.later X.le, HP.out.2.1.later X.le, then_below HP.out.2.2 X.le⟩
                clear HP e0 e1 e2 e3 e4 e5 e6 f0 f1 f2 f3 f4 f5 f6 f7 f8
                generalize X.wd = w9 at *
                clear X
                go_wp2
                exact ⟨⟨1, by omega, by go_num, by rw [HR.out], HP2.out⟩, by simp [RowKit.intOf]⟩
              · have HR : Hid (axN A0 A1 A2 1 = sk) := HN1.out (by rw [H0.out, hp, Bool.false_and, hc, Bool.and_true, decide_eq_true hq])
                rw [hp] at e3
                clear HN0 HN1 hq hp
                go_wp2_with fail
                refine wp_region_look mixed (by kernel_rfl) ?_
                repeat (go_big_quiet_step (fail))
                refine wpQuiet_nil ?_
                intro X
                have HP2 : Hid (Wl X.wd n1 (.slice (some ⟨gT, 0, none⟩) Ts.length tc) Ts ∧ Blk X.wd (w.heap.size + 1) 32 (C9 b p q r) ∧ Below w.heap.size w X.wd) := ⟨HP.out.1.later X.le, HP.out.2.1.later X.le, then_below HP.out.2.2 X.le⟩
                clear HP e0 e1 e2 e3 e4 e5 e6 f0 f1 f2 f3 f4 f5 f6 f7 f8
                generalize X.wd = w9 at *
                clear X
                go_wp2
                exact ⟨⟨1, by omega, by go_num, by rw [HR.out], HP2.out⟩, by simp [RowKit.intOf]⟩
            · cases hc : (decide (1 < x1) == p)
              · have HR : Hid (axN A0 A1 A2 1 = false) := HN0.out (by rw [H0.out, hp, Bool.true_and, hc, Bool.and_false])
                rw [hp] at e3
                clear HN0 HN1 hq hp
                go_wp2_with fail
                refine wp_region_look mixed (by kernel_rfl) ?_
                repeat (go_big_quiet_step (fail))
                refine wpQuiet_nil ?_
                intro X
                have HP2 : Hid (Wl X.wd n1 (.slice (some ⟨gT, 0, none⟩) Ts.length tc) Ts ∧ Blk X.wd (w.heap.size + 1) 32 (C9 b p q r) ∧ Below w.heap.size w X.wd) := ⟨HP.out.1.later X.le, HP.out.2.1.later X.le, then_below HP.out.2.2 X.le⟩
                clear HP e0 e1 e2 e3 e4 e5 e6 f0 f1 f2 f3 f4 f5 f6 f7 f8
                generalize X.wd = w9 at *
                clear X
                go_wp2
                exact ⟨⟨1, by omega, by go_num, by rw [HR.out], HP2.out⟩, by simp [RowKit.intOf]⟩
              · have HR : Hid (axN A0 A1 A2 1 = sk) := HN1.out (by rw [H0.out, hp, Bool.true_and, hc, Bool.and_true, decide_eq_true hq])
                rw [hp] at e3
                clear HN0 HN1 hq hp
                go_wp2_with fail
                refine wp_region_look mixed (by kernel_rfl) ?_
                repeat (go_big_quiet_step (fail))
                refine wpQuiet_nil ?_
                intro X
                have HP2 : Hid (Wl X.wd n1 (.slice (some ⟨gT, 0, none⟩) Ts.length tc) Ts ∧ Blk X.wd (w.heap.size + 1) 32 (C9 b p q r) ∧ Below w.heap.size w X.wd) := ⟨HP.out.1.later X.le, HP.out.2.1.later X.le, then_below HP.out.2.2 X.le⟩
                clear HP e0 e1 e2 e3 e4 e5 e6 f0 f1 f2 f3 f4 f5 f6 f7 f8
                generalize X.wd = w9 at *
                clear X
                go_wp2
                exact ⟨⟨1, by omega, by go_num, by rw [HR.out], HP2.out⟩, by simp [RowKit.intOf]⟩
          · have hq' : (x1 != b.a) = true := by simpa using hq
            have HR : Hid (axN A0 A1 A2 1 = false) := HN0.out (by rw [H0.out, decide_eq_false hq, Bool.false_and])
            clear HN0 HN1 hq
            go_wp2_with fail
            refine wp_region_look mixed (by kernel_rfl) ?_
            repeat (go_big_quiet_step (fail))
            refine wpQuiet_nil ?_
            intro X
            have HP2 : Hid (Wl X.wd n1 (.slice (some ⟨gT, 0, none⟩) Ts.length tc) Ts ∧ Blk X.wd (w.heap.size + 1) 32 (C9 b p q r) ∧ Below w.heap.size w X.wd) := ⟨HP.out.1.later X.le, HP.out.2.1.later X.le, then_below HP.out.2.2 X.le⟩
            clear HP e0 e1 e2 e3 e4 e5 e6 f0 f1 f2 f3 f4 f5 f6 f7 f8
            generalize X.wd = w9 at *
            clear X
            go_wp2
            exact ⟨⟨1, by omega, by go_num, by rw [HR.out], HP2.out⟩, by simp [RowKit.intOf]⟩
        · generalize hs : axN A0 A1 A2 1 = sk at *
          have HN0 : Hid (A1 = false → axN A0 A1 A2 2 = false) := fun h => by cases A0 <;> cases A1 <;> cases A2 <;> simp_all [axN]
          have HN1 : Hid (A1 = true → axN A0 A1 A2 2 = sk) := fun h => by rw [← hs]; cases A0 <;> cases A1 <;> cases A2 <;> simp_all [axN]
          clear hs
          by_cases hq : y1 = b.b
          · have hq' : (y1 != b.b) = false := by simpa using hq
            cases hp : q1
            · cases hc : (false == q)
              · have HR : Hid (axN A0 A1 A2 2 = false) := HN0.out (by rw [H1.out, hp, Bool.false_and, hc, Bool.and_false])
                rw [hp] at e4
                clear HN0 HN1 hq hp
                go_wp2_with fail
                refine wp_region_look mixed (by kernel_rfl) ?_
                repeat (go_big_quiet_step (fail))
                refine wpQuiet_nil ?_
                intro X
                have HP2 : Hid (Wl X.wd n1 (.slice (some ⟨gT, 0, none⟩) Ts.length tc) Ts ∧ Blk X.wd (w.heap.size + 1) 32 (C9 b p q r) ∧ Below w.heap.size w X.wd) := ⟨HP.out.1.later X.le, HP.out.2.1.later X.le, then_below HP.out.2.2 X.le⟩
                clear HP e0 e1 e2 e3 e4 e5 e6 f0 f1 f2 f3 f4 f5 f6 f7 f8
                generalize X.wd = w9 at *
                clear X
                go_wp2
                exact ⟨⟨2, by omega, by go_num, by rw [HR.out], HP2.out⟩, by simp [RowKit.intOf]⟩
              · have HR : Hid (axN A0 A1 A2 2 = sk) := HN1.out (by rw [H1.out, hp, Bool.false_and, hc, Bool.and_true, decide_eq_true hq])
                rw [hp] at e4
                clear HN0 HN1 hq hp
                go_wp2_with fail
                refine wp_region_look mixed (by kernel_rfl) ?_
                repeat (go_big_quiet_step (fail))
                refine wpQuiet_nil ?_
                intro X
                have HP2 : Hid (Wl X.wd n1 (.slice (some ⟨gT, 0, none⟩) Ts.length tc) Ts ∧ Blk X.wd (w.heap.size + 1) 32 (C9 b p q r) ∧ Below w.heap.size w X.wd) := ⟨HP.out.1.later X.le, HP.out.2.1.later X.le, then_below HP.out.2.2 X.le⟩
                clear HP e0 e1 e2 e3 e4 e5 e6 f0 f1 f2 f3 f4 f5 f6 f7 f8
                generalize X.wd = w9 at *
                clear X
                go_wp2
                exact ⟨⟨2, by omega, by go_num, by rw [HR.out], HP2.out⟩, by simp [RowKit.intOf]⟩
            · cases hc : (decide (1 < y1) == q)
              · have HR : Hid (axN A0 A1 A2 2 = false) := HN0.out (by rw [H1.out, hp, Bool.true_and, hc, Bool.and_false])
                rw [hp] at e4
                clear HN0 HN1 hq hp
                go_wp2_with fail
                refine wp_region_look mixed (by kernel_rfl) ?_
                repeat (go_big_quiet_step (fail))
                refine wpQuiet_nil ?_
                intro X
                have HP2 : Hid (Wl X.wd n1 (.slice (some ⟨gT, 0, none⟩) Ts.length tc) Ts ∧ Blk X.wd (w.heap.size + 1) 32 (C9 b p q r) ∧ Below w.heap.size w X.wd) := ⟨HP.out.1.later X.le, HP.out.2.1.later X.le, then_below HP.out.2.2 X.le⟩
                clear HP e0 e1 e2 e3 e4 e5 e6 f0 f1 f2 f3 f4 f5 f6 f7 f8
                generalize X.wd = w9 at *
                clear X
                go_wp2
                exact ⟨⟨2, by omega, by go_num, by rw [HR.out], HP2.out⟩, by simp [RowKit.intOf]⟩
              · have HR : Hid (axN A0 A1 A2 2 = sk) := HN1.out (by rw [H1.out, hp, Bool.true_and, hc, Bool.and_true, decide_eq_true hq])
                rw [hp] at e4
                clear HN0 HN1 hq hp
                go_wp2_with fail
                refine wp_region_look mixed (by kernel_rfl) ?_
                repeat (go_big_quiet_step (fail))
                refine wpQuiet_nil ?_
                intro X
                have HP2 : Hid (Wl X.wd n1 (.slice (some ⟨gT, 0, none⟩) Ts.length tc) Ts ∧ Blk X.wd (w.heap.size + 1) 32 (C9 b p q r) ∧ Below w.heap.size w X.wd) := ⟨HP.out.1.later X.le, HP.out.2.1.later X.le, then_below HP.out.2.2 X.le⟩
                clear HP e0 e1 e2 e3 e4 e5 e6 f0 f1 f2 f3 f4 f5 f6 f7 f8
                generalize X.wd = w9 at *
                clear X
                go_wp2
                exact ⟨⟨2, by omega, by go_num, by rw [HR.out], HP2.out⟩, by simp [RowKit.intOf]⟩
          · have hq' : (y1 != b.b) = true := by simpa using hq
            have HR : Hid (axN A0 A1 A2 2 = false) := HN0.out (by rw [H1.out, decide_eq_false hq, Bool.false_and])
            clear HN0 HN1 hq
            go_wp2_with fail
            refine wp_region_look mixed (by kernel_rfl) ?_
            repeat (go_big_quiet_step (fail))
            refine wpQuiet_nil ?_
            intro X
            have HP2 : Hid (Wl X.wd n1 (.slice (some ⟨gT, 0, none⟩) Ts.length tc) Ts ∧ Blk X.wd (w.heap.size + 1) 32 (C9 b p q r) ∧ Below w.heap.size w X.wd) := ⟨HP.out.1.later X.le, HP.out.2.1.later X.le, then_below HP.out.2.2 X.le⟩
            clear HP e0 e1 e2 e3 e4 e5 e6 f0 f1 f2 f3 f4 f5 f6 f7 f8
            generalize X.wd = w9 at *
            clear X
            go_wp2
            exact ⟨⟨2, by omega, by go_num, by rw [HR.out], HP2.out⟩, by simp [RowKit.intOf]⟩
        · generalize hs : axN A0 A1 A2 2 = sk at *
          have HN0 : Hid (A2 = false → axN A0 A1 A2 3 = false) := fun h => by cases A0 <;> cases A1 <;> cases A2 <;> simp_all [axN]
          have HN1 : Hid (A2 = true → axN A0 A1 A2 3 = sk) := fun h => by rw [← hs]; cases A0 <;> cases A1 <;> cases A2 <;> simp_all [axN]
          clear hs
          by_cases hq : z1 = b.c
          · have hq' : (z1 != b.c) = false := by simpa using hq
            cases hp : r1
            · cases hc : (false == r)
              · have HR : Hid (axN A0 A1 A2 3 = false) := HN0.out (by rw [H2.out, hp, Bool.false_and, hc, Bool.and_false])
                rw [hp] at e5
                clear HN0 HN1 hq hp
                go_wp2_with fail
                refine wp_region_look mixed (by kernel_rfl) ?_
                repeat (go_big_quiet_step (fail))
                refine wpQuiet_nil ?_
                intro X
                have HP2 : Hid (Wl X.wd n1 (.slice (some ⟨gT, 0, none⟩) Ts.length tc) Ts ∧ Blk X.wd (w.heap.size + 1) 32 (C9 b p q r) ∧ Below w.heap.size w X.wd) := ⟨HP.out.1.later X.le, HP.out.2.1.later X.le, then_below HP.out.2.2 X.le⟩
                clear HP e0 e1 e2 e3 e4 e5 e6 f0 f1 f2 f3 f4 f5 f6 f7 f8
                generalize X.wd = w9 at *
                clear X
                go_wp2
                exact ⟨⟨3, by omega, by go_num, by rw [HR.out], HP2.out⟩, by simp [RowKit.intOf]⟩
              · have HR : Hid (axN A0 A1 A2 3 = sk) := HN1.out (by rw [H2.out, hp, Bool.false_and, hc, Bool.and_true, decide_eq_true hq])
                rw [hp] at e5
                clear HN0 HN1 hq hp
                go_wp2_with fail
                refine wp_region_look mixed (by kernel_rfl) ?_
                repeat (go_big_quiet_step (fail))
                refine wpQuiet_nil ?_
                intro X
                have HP2 : Hid (Wl X.wd n1 (.slice (some ⟨gT, 0, none⟩) Ts.length tc) Ts ∧ Blk X.wd (w.heap.size + 1) 32 (C9 b p q r) ∧ Below w.heap.size w X.wd) := ⟨HP.out.1.later X.le, HP.out.2.1.later X.le, then_below HP.out.2.2 X.le⟩
                clear HP e0 e1 e2 e3 e4 e5 e6 f0 f1 f2 f3 f4 f5 f6 f7 f8
                generalize X.wd = w9 at *
                clear X
                go_wp2
                exact ⟨⟨3, by omega, by go_num, by rw [HR.out], HP2.out⟩, by simp [RowKit.intOf]⟩
            · cases hc : (decide (1 < z1) == r)
              · have HR : Hid (axN A0 A1 A2 3 = false) := HN0.out (by rw [H2.out, hp, Bool.true_and, hc, Bool.and_false])
                rw [hp] at e5
                clear HN0 HN1 hq hp
                go_wp2_with fail
                refine wp_region_look mixed (by kernel_rfl) ?_
                repeat (go_big_quiet_step (fail))
                refine wpQuiet_nil ?_
                intro X
                have HP2 : Hid (Wl X.wd n1 (.slice (some ⟨gT, 0, none⟩) Ts.length tc) Ts ∧ Blk X.wd (w.heap.size + 1) 32 (C9 b p q r) ∧ Below w.heap.size w X.wd) := ⟨HP.out.1.later X.le, HP.out.2.1.later X.le, then_below HP.out.2.2 X.le⟩
                clear HP e0 e1 e2 e3 e4 e5 e6 f0 f1 f2 f3 f4 f5 f6 f7 f8
                generalize X.wd = w9 at *
                clear X
                go_wp2
                exact ⟨⟨3, by omega, by go_num, by rw [HR.out], HP2.out⟩, by simp [RowKit.intOf]⟩
              · have HR : Hid (axN A0 A1 A2 3 = sk) := HN1.out (by rw [H2.out, hp, Bool.true_and, hc, Bool.and_true, decide_eq_true hq])
                rw [hp] at e5
                clear HN0 HN1 hq hp
                go_wp2_with fail
                refine wp_region_look mixed (by kernel_rfl) ?_
                repeat (go_big_quiet_step (fail))
                refine wpQuiet_nil ?_
                intro X
                have HP2 : Hid (Wl X.wd n1 (.slice (some ⟨gT, 0, none⟩) Ts.length tc) Ts ∧ Blk X.wd (w.heap.size + 1) 32 (C9 b p q r) ∧ Below w.heap.size w X.wd) := ⟨HP.out.1.later X.le, HP.out.2.1.later X.le, then_below HP.out.2.2 X.le⟩
                clear HP e0 e1 e2 e3 e4 e5 e6 f0 f1 f2 f3 f4 f5 f6 f7 f8
                generalize X.wd = w9 at *
                clear X
                go_wp2
                exact ⟨⟨3, by omega, by go_num, by rw [HR.out], HP2.out⟩, by simp [RowKit.intOf]⟩
          · have hq' : (z1 != b.c) = true := by simpa using hq
            have HR : Hid (axN A0 A1 A2 3 = false) := HN0.out (by rw [H2.out, decide_eq_false hq, Bool.false_and])
            clear HN0 HN1 hq
            go_wp2_with fail
            refine wp_region_look mixed (by kernel_rfl) ?_
            repeat (go_big_quiet_step (fail))
            refine wpQuiet_nil ?_
            intro X
            have HP2 : Hid (Wl X.wd n1 (.slice (some ⟨gT, 0, none⟩) Ts.length tc) Ts ∧ Blk X.wd (w.heap.size + 1) 32 (C9 b p q r) ∧ Below w.heap.size w X.wd) := ⟨HP.out.1.later X.le, HP.out.2.1.later X.le, then_below HP.out.2.2 X.le⟩
            clear HP e0 e1 e2 e3 e4 e5 e6 f0 f1 f2 f3 f4 f5 f6 f7 f8
            generalize X.wd = w9 at *
            clear X
            go_wp2
            exact ⟨⟨3, by omega, by go_num, by rw [HR.out], HP2.out⟩, by simp [RowKit.intOf]⟩
        · generalize hs : axN A0 A1 A2 3 = sk at *
          clear e0 e1 e2 e3 e4 e5 e6 f0 f1 f2 f3 f4 f5 f6 f7 f8
          cases sk
          · have HNn : Hid (∀ j, j < i + 1 → decide (kindT (Ts.getD j default) = kdP (b, p, q, r)) = false) := HNi.out HKd.out
            clear hs
            go_wp2
            exact ⟨⟨i + 1, by omega, by go_num, HNn.out, HP.out⟩, by simp [RowKit.intOf]; omega⟩
          · have HAn : Hid (ans = true) := HIi.out HKd.out
            clear hs
            go_wp2
            go_ret
            exact ⟨by rw [HAn.out]; rfl, HP.out.2.2⟩
    · obtain rfl : i = Ts.length := by omega
      have HAn : Hid (ans = false) := HI0.out HNo.out
      clear HNo
      go_wp2
      go_ret
      exact ⟨by rw [HAn.out]; rfl, HP.out.2.2⟩

end Go.Proofs.YtlahfffgmfjpaaaGreatDoor

/-
  As Loud, where the operations from number k on come last, each the only one that may come up: they wait, if only through others, for all of the beginning.
-/
namespace Go.Proofs.YtlahfffgmfjpaaaGreatDoor
open Go Go.RowKit Go.Shelf

section
variable {F : Fence} {n : Nat} {P : Program}

/-- For what an operation waits. -/
def depsOf (l : List Oper) (t : Nat) : List Nat := match l[t]? with | some o => (o.after.toList.filter fun e => Region.binds .any e).map (·.on) | none => []
/-- It waits for another one, if only through others. -/
def needB (l : List Oper) : Nat → Nat → Nat → Bool
  | 0, _, _ => false
  | f + 1, t, i => (depsOf l t).any fun j => j == i || needB l f j i
/-- The beginning, of k operations: each writes a slot of its own, waits for such as stand ahead alone; all the others wait for each of it. -/
def soloB3 (l : List Oper) (k m : Nat) : Bool :=
  decide (k ≤ l.length) && ((l.take k).all fun o => o.guard.isNone && o.dst.isSome) && ((List.range k).all fun i => decide (dstOf (l.take k) i < m) && (List.range k).all fun j => i == j || dstOf (l.take k) i != dstOf (l.take k) j) && noDefer l.toArray &&
  ((List.range k).all fun t => match l[t]? with | some o => backOnly o t | none => true) &&
  ((List.range (l.length - k)).all fun t => (List.range k).all fun i => needB l 6 (k + t) i) &&
  Region.seqB .any l.toArray (l.length - k) k (both (Array.replicate k true) (l.length - k))

def Closed (l : List Oper) (L : Array Bool) : Prop := ∀ t, L.getD t false = true → ∀ j ∈ depsOf l t, L.getD j false = true
theorem need_in {l : List Oper} {L : Array Bool} (hc : Closed l L) : ∀ (f t i : Nat), needB l f t i = true → (∀ j ∈ depsOf l t, L.getD j false = true) → L.getD i false = true
  | 0, _, _, h, _ => by cases h
  | f + 1, t, i, h, hd => by
    obtain ⟨j, hj, hij⟩ := List.any_eq_true.1 h
    rcases (Bool.or_eq_true_iff.1 hij) with e | e
    · have : j = i := by simpa using e
      exact this ▸ hd j hj
    · exact need_in hc f j i e (hc j (hd j hj))
theorem mem_deps {l : List Oper} {t : Nat} {o : Oper} (ho : l[t]? = some o) {j : Nat} : j ∈ depsOf l t ↔ ∃ e ∈ o.after, Region.binds .any e = true ∧ e.on = j := by
  unfold depsOf
  rw [ho]
  simp only [List.mem_map, List.mem_filter, Array.mem_toList_iff]
  exact ⟨fun ⟨e, ⟨h1, h2⟩, h3⟩ => ⟨e, h1, h2, h3⟩, fun ⟨e, h1, h2, h3⟩ => ⟨e, ⟨h1, h2⟩, h3⟩⟩

/-- An operation that comes to a value, and it may be to a turned world. -/
theorem wpListIn_value {ops : Array Oper} {rest : List Oper} {o : Oper} {a : Act} {Q : Exit → Act → World → Prop} {w w' : World} {v : Value} (hF : Loose F P) (hgd : o.guard = none) (hd : ∀ c, o.op ≠ .defer c)
    (hrun : (execOp a.eval o).run P w = .ok (.value v) w') (h : wpListIn F n P ops Q rest (a.put o.dst v) w') : wpListIn F n P ops Q (o :: rest) a w := by
  have hfn : ∀ f, o.about P w a.eval = some f → F.fn f := fun f _ => hF.fn f
  unfold wpListIn
  simp only [Region.wanted, hgd, if_true]
  refine ⟨hfn, ?_⟩
  rw [Oper.semAt_eq _ _ _ hd, hrun]
  exact h

variable {l : List Oper} {a0 : Act} {w0 : World} {Q : Exit → Act → World → Prop} {S : Nat → Value → World → Prop} {k : Nat}

theorem any_loud3 (hF : Loose F P) (hB : soloB3 l k a0.tmps.size = true)
    (hS : ∀ i v w w', S i v w → Below w.heap.size w w' → S i v w')
    (hop : ∀ (i : Nat) (o : Oper), (l.take k)[i]? = some o → ∀ (a : Act) (w : World), Below w0.heap.size w0 w → Like (l.take k) a0 a → (∀ e ∈ o.after, Region.binds .any e = true → S e.on (slot (l.take k) a e.on) w) → Comes P o a w (S i))
    (hend : ∀ (a : Act) (w : World), Below w0.heap.size w0 w → Like (l.take k) a0 a → (∀ i, i < k → S i (slot (l.take k) a i) w) → wpListIn F n P l.toArray Q (l.drop k) a w) :
    ∀ (f : Nat) (L : Array Bool) (a : Act) (w : World), L.size = l.length → L.toList.count false ≤ f → Below w0.heap.size w0 w → Like (l.take k) a0 a → (∀ i, i < k → L.getD i false = true → S i (slot (l.take k) a i) w) → (∀ t, k ≤ t → L.getD t false = false) → Closed l L → wpAnyIn F n P .any l.toArray Q f L a w := by
  simp only [soloB3, Bool.and_eq_true] at hB
  obtain ⟨⟨⟨⟨⟨⟨hk, hB1⟩, hB2⟩, hnd⟩, hback⟩, hneed⟩, hseq⟩ := hB
  have hk : k ≤ l.length := of_decide_eq_true hk
  have hlen : (l.take k).length = k := by simp [hk]
  have same : ∀ i, i < k → (l.take k)[i]? = l[i]? := fun i hi => by simp [hi]
  have back : ∀ i o, i < k → l[i]? = some o → ∀ j ∈ depsOf l i, j < i := fun i o hi ho j hj => by
    have h1 := List.all_eq_true.1 hback i (List.mem_range.2 hi)
    rw [ho] at h1
    obtain ⟨e, he, hb, rfl⟩ := (mem_deps ho).1 hj
    have := Array.all_eq_true'.1 (Bool.and_eq_true_iff.1 h1).1 e he
    simpa [hb] using this
  have need : ∀ t, k ≤ t → t < l.length → ∀ i, i < k → needB l 6 t i = true := fun t h1 h2 i hi => by
    have h3 := List.all_eq_true.1 hneed (t - k) (List.mem_range.2 (by omega))
    have := List.all_eq_true.1 h3 i (List.mem_range.2 hi)
    rwa [show k + (t - k) = t by omega] at this
  have solo : ∀ i o, i < k → l[i]? = some o → o.guard = none ∧ o.dst = some (dstOf (l.take k) i) ∧ dstOf (l.take k) i < a0.tmps.size ∧ ∀ j, j < k → j ≠ i → dstOf (l.take k) i ≠ dstOf (l.take k) j := fun i o hi ho => by
    have ho' : (l.take k)[i]? = some o := (same i hi).trans ho
    obtain ⟨hlt, he⟩ := List.getElem?_eq_some_iff.1 ho'
    have k1 := List.all_eq_true.1 hB1 o (he ▸ List.getElem_mem hlt)
    simp only [Bool.and_eq_true, Option.isNone_iff_eq_none] at k1
    have k2 := List.all_eq_true.1 hB2 i (List.mem_range.2 hi)
    simp only [Bool.and_eq_true, decide_eq_true_eq] at k2
    refine ⟨k1.1, ?_, k2.1, fun j hj hne => ?_⟩
    · obtain ⟨d, hd⟩ := Option.isSome_iff_exists.1 k1.2
      simp [dstOf, ho', hd]
    · have := List.all_eq_true.1 k2.2 j (List.mem_range.2 hj)
      simp only [Bool.or_eq_true, beq_iff_eq, bne_iff_ne] at this
      rcases this with e | e
      · exact absurd e.symm hne
      · exact e
  have full : ∀ (f : Nat) (L : Array Bool) (a : Act) (w : World), L.size = l.length → L.toList.count false ≤ f → Below w0.heap.size w0 w → Like (l.take k) a0 a → (∀ i, i < k → L.getD i false = true → S i (slot (l.take k) a i) w) → (∀ t, k ≤ t → L.getD t false = false) → (∀ i, i < k → L.getD i false = true) → wpAnyIn F n P .any l.toArray Q f L a w := by
    intro f L a w hs hc hT hL hA hno hall
    have eL : L = both (Array.replicate k true) (l.length - k) := by
      refine Array.ext (by simp [both]; omega) fun i h1 h2 => ?_
      by_cases hi : i < k
      · have := hall i hi
        simpa [Array.getD, h1, both, Array.getElem_append_left, hi] using this
      · have := hno i (by omega)
        simp only [Array.getD, h1, dif_pos] at this
        rw [show L[i] = false from this]
        have h3 : (both (Array.replicate k true) (l.length - k)).getD i false = false := by
          unfold both
          rw [Array.getD_eq_getD_getElem?, Array.getElem?_append_right (by simp; omega)]
          simp [Array.getElem?_replicate]
          split <;> rfl
        rw [Array.getD, dif_pos h2] at h3
        exact h3.symm
    have hcount : l.length - k ≤ L.toList.count false := by
      rw [eL]
      simp [both]
    exact any_forced (l.drop k) k L f a w (fun j => by simp) (by rw [eL]; simpa using hseq) (by simp; omega) (hend a w hT hL fun i hi => hA i hi (hall i hi))
  intro f
  induction f with
  | zero =>
    intro L a w hs hc hT hL hA hno hcl
    refine full 0 L a w hs hc hT hL hA hno fun i hi => ?_
    cases hv : L.getD i false with
    | true => rfl
    | false =>
      exfalso
      have h0 : L.toList.count false = 0 := by omega
      rw [List.count_eq_zero] at h0
      refine h0 ?_
      have hlt : i < L.size := by omega
      rw [Array.getD, dif_pos hlt] at hv
      have hv : L[i] = false := hv
      rw [← hv]
      exact Array.getElem_mem_toList hlt
  | succ f ih =>
    intro L a w hs hc hT hL hA hno hcl
    by_cases hfull : ∀ i, i < k → L.getD i false = true
    · exact full (f + 1) L a w hs hc hT hL hA hno hfull
    · refine ⟨fun hr => ?_, fun i hi => ?_⟩
      · exfalso
        refine hfull fun i => ?_
        induction i using Nat.strongRecOn with
        | _ i ih' =>
          intro hi
          cases hv : L.getD i false with
          | true => rfl
          | false =>
            have hil : i < l.length := by omega
            have hmem : i ∈ Region.ready .any l.toArray L := by
              rw [mem_ready]
              refine ⟨getD_in (by omega) hv, l[i], by simp [hil], fun e he hb => ?_⟩
              have hlt := back i l[i] hi (List.getElem?_eq_getElem hil) e.on ((mem_deps (List.getElem?_eq_getElem hil)).2 ⟨e, he, hb, rfl⟩)
              exact ih' e.on hlt (by omega)
            rw [hr] at hmem
            cases hmem
      · obtain ⟨h1, o, ho, hall⟩ := mem_ready.1 hi
        have hol : l[i]? = some o := by simpa using ho
        have hil : i < l.length := (List.getElem?_eq_some_iff.1 hol).1
        have hdeps : ∀ j ∈ depsOf l i, L.getD j false = true := fun j hj => by
          obtain ⟨e, he, hb, rfl⟩ := (mem_deps hol).1 hj
          exact hall e he hb
        have hik : i < k := by
          rcases Nat.lt_or_ge i k with h | h
          · exact h
          · exact absurd (fun j hj => need_in hcl 6 i j (need i h hil j hj) hdeps) hfull
        obtain ⟨hg, hd, hlt, hne⟩ := solo i o hik hol
        have hcome := hop i o ((same i hik).trans hol) a w hT hL (fun e he hb => hA e.on (by have := back i o hik hol e.on ((mem_deps hol).2 ⟨e, he, hb, rfl⟩); omega) (hall e he hb))
        have hnot : L.toList[i]? = some false := by
          have hlt' : i < L.size := by omega
          rw [Array.getD, dif_pos hlt'] at h1
          rw [Array.getElem?_toList, Array.getElem?_eq_getElem hlt']
          exact congrArg some h1
        have hset : ∀ j, (L.setIfInBounds i true).getD j false = true → j = i ∨ L.getD j false = true := fun j hj => by
          by_cases hij : j = i
          · exact .inl hij
          · rw [Array.getD_eq_getD_getElem?, Array.getElem?_setIfInBounds_ne (Ne.symm hij), ← Array.getD_eq_getD_getElem?] at hj
            exact .inr hj
        have hkeep : ∀ j, L.getD j false = true → (L.setIfInBounds i true).getD j false = true := fun j hj => by
          by_cases hij : j = i
          · subst hij
            have hlt' : j < L.size := by omega
            simp [Array.getD, hlt']
          · rw [Array.getD_eq_getD_getElem?, Array.getElem?_setIfInBounds_ne (Ne.symm hij), ← Array.getD_eq_getD_getElem?]
            exact hj
        have hnext : ∀ (v : Value) (w' : World), Below w.heap.size w w' → S i v w' → wpAnyIn F n P .any l.toArray Q f (L.setIfInBounds i true) (a.put o.dst v) w' := by
          intro v w' hB' hv
          rw [hd]
          refine ih _ _ w' (by simpa using hs) ?_ (then_below hT hB') ⟨?_, ?_, ?_⟩ ?_ ?_ ?_
          · have := count_set L.toList i hnot
            rw [Array.toList_setIfInBounds]
            omega
          · simp [Act.put]; exact hL.size
          · simp [Act.put]; exact hL.defers
          · intro t ht
            rw [put_ne (ht i (by rw [hlen]; exact hik))]
            exact hL.out t ht
          · intro j hjk hj
            by_cases hij : j = i
            · subst hij
              show S j ((a.put (some (dstOf (l.take k) j)) v).tmps.getD (dstOf (l.take k) j) undef) w'
              rw [put_at (by rw [hL.size]; exact hlt)]
              exact hv
            · rcases hset j hj with e | hjl
              · exact absurd e hij
              · show S j ((a.put (some (dstOf (l.take k) i)) v).tmps.getD (dstOf (l.take k) j) undef) w'
                rw [getD_ne (hne j hjk hij)]
                exact hS _ _ _ _ (hA j hjk hjl) hB'
          · intro t ht
            have hti : t ≠ i := by omega
            rw [Array.getD_eq_getD_getElem?, Array.getElem?_setIfInBounds_ne (Ne.symm hti), ← Array.getD_eq_getD_getElem?]
            exact hno t ht
          · intro t ht j hj
            rcases hset t ht with rfl | ht'
            · exact hkeep j (hdeps j hj)
            · exact hkeep j (hcl t ht' j hj)
        have hfn : ∀ f, o.about P w a.eval = some f → F.fn f := fun f _ => hF.fn f
        simp only [wpOpIn, ho, Region.wanted, hg, if_true]
        refine ⟨hfn, ?_⟩
        rw [Oper.semAt_eq _ _ _ (noDefer_spec hnd ho)]
        rcases hcome with ⟨v, e, hv⟩ | ⟨g, args, e, hc'⟩
        · rw [e]; exact hnext v w (Below.refl _ _) hv
        · rw [e]
          refine ⟨fun hx => (hF.depth hx).elim, hF.calls _ _ _ _ _ (hc'.mono ?_)⟩
          rintro x w' ⟨v, rfl, hB', hv⟩
          exact hnext v w' hB' hv

/-- In whatever order the beginning goes: each of its operations' words holds when the rest begins. -/
theorem wp_region_loud3 {id : Nat} (k : Nat) (S : Nat → Value → World → Prop) (hm : P.follows .mixedOrders = true) (hB : soloB3 l k a0.tmps.size = true)
    (hS : ∀ i v w w', S i v w → Below w.heap.size w w' → S i v w')
    (hop : ∀ (i : Nat) (o : Oper), (l.take k)[i]? = some o → ∀ (a : Act) (w : World), Below w0.heap.size w0 w → Like (l.take k) a0 a → (∀ e ∈ o.after, Region.binds .any e = true → S e.on (slot (l.take k) a e.on) w) → Comes P o a w (S i))
    (hend : ∀ (v : Nat → Value) (w : World), Below w0.heap.size w0 w → (∀ i, i < k → S i (v i) w) → wpListIn Fence.wide 0 P l.toArray Q (l.drop k) ((List.range (l.take k).length).foldl (fun b i => b.put (some (dstOf (l.take k) i)) (v i)) a0) w) :
    (Code.region id l.toArray true).wp P Q a0 w0 := by
  refine (wpIn_wide (n := 0)).1 (wpIn_region_any hm ?_)
  refine any_loud3 (loose_wide P) hB hS hop (fun a w hT hL hA => ?_) _ _ _ _ (by simp) (by simp) ((Below.refl _ w0).drew) ⟨rfl, rfl, fun _ _ => rfl⟩ (fun i _ hi => ?_) (fun t _ => ?_) (fun t ht => ?_)
  · rw [like_puts hL]
    exact hend (slot (l.take k) a) w hT hA
  · exfalso
    rw [Array.getD_eq_getD_getElem?] at hi
    simp [Array.getElem?_replicate] at hi
    split at hi <;> simp at hi
  · rw [Array.getD_eq_getD_getElem?]
    simp [Array.getElem?_replicate]
    split <;> simp
  · exfalso
    rw [Array.getD_eq_getD_getElem?] at ht
    simp [Array.getElem?_replicate] at ht
    split at ht <;> simp at ht
end

/-- 'append(list, more...)', as one operation: what it comes to. -/
theorem cat_run {o : Oper} {a : Act} {W : World} {base b2 : Nat} {v u : Value} {xs ys : List Int} (s x : Operand)
    (ho : o.op = .call { callee := .builtin .append, args := #[s, x], argTypes := #[158, 158] }) (hs : a.eval s = v) (hx : a.eval x = u)
    (hown : Lst W base v xs) (hu : Lst W b2 u ys) (hl : xs.length ≤ 100000) (hl2 : ys.length ≤ 100000) (hb : base ≤ W.heap.size) :
    ∃ v' w', (execOp a.eval o).run Tryz.prog W = .ok (.value v') w' ∧ Lst w' base v' (xs ++ ys) ∧ Below base W w' := by
  obtain ⟨i0, hi, hz0, hz1, hz2⟩ := info_parts info_int
  have hv := hu.view
  rcases hu.2 with ⟨rfl, hn⟩ | ⟨g, cap, cur, rfl, hg, hh, hc, hc2, hs2, ht⟩
  · have : ys = [] := List.length_eq_zero_iff.1 hn
    subst this
    rw [List.append_nil]
    have hrun := run_append_owned_none (P := Tryz.prog) (w := W) base 158 o.type 3 i0 1 Tryz.underlying158 hi v xs.length _ hown
    refine ⟨v, W, ?_, hown, Below.refl _ _⟩
    simp [execOp, ho, resolve, invoke, builtin, hs, hx, hrun, Result.andThen]
  · have hnews : ∀ j y, (ys.map (Value.int .i64))[j]? = some y → W.cell? ((⟨g, 0, none⟩ : Addr).add j) = some y := by
      intro j y hj
      have hjl : j < ys.length := by
        have := (List.getElem?_eq_some_iff.1 hj).1
        simpa using this
      obtain ⟨ao, c, e, hw⟩ := hv
      simp only [Value.slice.injEq] at e
      obtain ⟨rfl, -, -⟩ := e
      obtain ⟨g', cur', e, hB, hc'⟩ := hw j hjl
      simp only [Option.some.injEq, Addr.mk.injEq] at e
      obtain ⟨rfl, -, -⟩ := e
      have : (⟨g, 0, none⟩ : Addr).add j = ⟨g, j, none⟩ := by
        unfold Addr.add
        split
        · rename_i h0; subst h0; rfl
        · simp
      rw [this, hB.cell j, hc', ← hj]
      simp [hjl]
    have hone : ∀ y ∈ ys.map (Value.int .i64), y.oneCell' = true := by
      intro y hy
      obtain ⟨z, _, rfl⟩ := List.mem_map.1 hy
      rfl
    obtain ⟨v', w', hr, h2, h3, _⟩ := run_append_own (P := Tryz.prog) W base 158 o.type 3 i0 (.int .i64 0) 1 8 Tryz.underlying158 hi hz0 hz1 hz2 rfl (by decide) v xs.length (xs.map (Value.int .i64)) hown ⟨g, 0, none⟩ ys.length cap (ys.map (Value.int .i64)) (by simp) hnews hone (by unfold maxLen; omega) (by omega) hb
    refine ⟨v', w', ?_, ?_, (Below.refl base W).grown h3 hb (fun k hk => (World.ownsRow.lt hown k hk).1)⟩
    · simp [execOp, ho, resolve, invoke, builtin, hs, hx, hr, Result.andThen]
    · unfold Lst
      rw [List.map_append, List.length_append]
      exact h2

end Go.Proofs.YtlahfffgmfjpaaaGreatDoor

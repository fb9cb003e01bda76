/-
  What the document's own answer for layer 6 (tidehallref06) gives: May, Check. And a set of numbers, as tidehallref03.From makes it.
-/
import Derived.Test.YtlahfffgmfjpaaaGreatDoorPart15
import Derived.Test.YtlahfffgmfjpaaaGreatDoorPart5
import Derived.Test.YtlahfffgmfjpaaaGreatDoorPart33
import Derived.Test.YtlahfffgmfjpaaaGreatDoorPart32
import Derived.Test.YtlahfffgmfjpaaaGreatDoorPart1
import Derived.Test.YtlahfffgmfjpaaaGreatDoorPart9
import Derived.Test.YtlahfffgmfjpaaaGreatDoorPart3
namespace Go.Proofs.YtlahfffgmfjpaaaGreatDoor
open Go Go.RowKit Go.Shelf

theorem jx0 (x y z : Int) (w : World) : (Instr.index 22 (A3 x y z) (.int .i64 0)).run Tryz.prog w = .ok (.int .i64 x) w := by kernel_rfl
theorem jx1 (x y z : Int) (w : World) : (Instr.index 22 (A3 x y z) (.int .i64 1)).run Tryz.prog w = .ok (.int .i64 y) w := by kernel_rfl
theorem jx2 (x y z : Int) (w : World) : (Instr.index 22 (A3 x y z) (.int .i64 2)).run Tryz.prog w = .ok (.int .i64 z) w := by kernel_rfl

attribute [local go_sem] Oper.semAt_some ext_const eq_arr eq_arr9 same3_self

/-- tidehallref03.From, of numbers that tell a known set. -/
theorem from_set {n : Int} {l : List Int} {p : Nat → Bool} {v : Value} {base : Nat} (w : World) (hv : Lst w base v l) (hl : l.length ≤ 65536) (h1 : 1 ≤ n) (h2 : n ≤ 12288) (hall : ∀ x ∈ l, 0 ≤ x ∧ x < n) (hp : ∀ j : Nat, inL l j = (decide (j < n.toNat) && p j)) :
    Calls Tryz.prog 101 #[I n, v] w fun e W' => ∃ u, e = .returned u ∧ SetR W' w.heap.size u (setOf n p) ∧ Below w.heap.size w W' := by
  obtain ⟨m, rfl⟩ : ∃ m : Nat, n = m := ⟨n.toNat, by omega⟩
  refine (from_calls w hv.its hl m (by omega) (by omega) (fun i hi => ?_)).mono ?_
  · rw [List.getD_eq_getElem?_getD, List.getElem?_eq_getElem hi]
    exact hall _ (List.getElem_mem hi)
  · rintro e w1 ⟨u, ws, rfl, hu, hi, hB⟩
    have e : ws = setOf (m : Int) p := hi.ext ((setOf_is (m : Int) p).congr hp)
    rw [← e]
    exact ⟨u, rfl, .inl hu, hB⟩

theorem sameBx_sym (a b : Bx) : sameBx a b = sameBx b a := by
  rw [Bool.eq_iff_iff, sameBx_iff, sameBx_iff]
  exact eq_comm

set_option maxRecDepth 100000 in
set_option maxHeartbeats 8000000 in
theorem rpmay_calls (d0 d1 d2 : Int) (b : Bx) (t0 t1 t2 : Bool) (w : World) :
    Calls Tryz.prog 56 #[A3 d0 d1 d2, P9 b t0 t1 t2] w fun e W' => e = .returned (.bool (mayPB d0 d1 d2 b t0 t1 t2)) ∧ Below w.heap.size w W' := by
  have hmx : Tryz.prog.follows .mixedOrders = true := by kernel_rfl
  have HM : Hid (∀ w, Calls Tryz.prog 32 #[A3 d0 d1 d2, B6 b] w fun e W' => e = .returned (.bool (mayBB d0 d1 d2 b)) ∧ Below w.heap.size w W') := fun w => rmayb_calls d0 d1 d2 b w
  have HC : Hid (∀ w, Calls Tryz.prog 81 #[A3 d0 d1 d2, B6 b] w fun e W' => e = .returned (B6 (canonB d0 d1 d2 b)) ∧ Below w.heap.size w W') := fun w => rtold_calls d0 d1 d2 b w
  have HA : Hid (mayPB d0 d1 d2 b t0 t1 t2 = (mayBB d0 d1 d2 b && sameBx b (canonB d0 d1 d2 b) && !torB b t0 t1 t2)) := rfl
  have HT : Hid (torB b t0 t1 t2 = ((t0 && b.a == 1) || (t1 && b.b == 1) || (t2 && b.c == 1))) := rfl
  have HS : Hid (sameBx b (canonB d0 d1 d2 b) = (same3 (canonB d0 d1 d2 b).x (canonB d0 d1 d2 b).y (canonB d0 d1 d2 b).z b.x b.y b.z && same3 (canonB d0 d1 d2 b).a (canonB d0 d1 d2 b).b (canonB d0 d1 d2 b).c b.a b.b b.c)) := sameBx_sym b (canonB d0 d1 d2 b)
  generalize sameBx b (canonB d0 d1 d2 b) = sm at *
  generalize canonB d0 d1 d2 b = c at *
  generalize mayPB d0 d1 d2 b t0 t1 t2 = ans at *
  generalize torB b t0 t1 t2 = tb at *
  generalize mayBB d0 d1 d2 b = mb at *
  go_enter Tryz.func56, Tryz.ntmps56
  go_wp2_with fail
  obtain ⟨W, hW, hB0, b0, b1⟩ := two_start w #[I d0, I d1, I d2] (C9 b t0 t1 t2) 23 32
  rw [hW]
  clear hW
  obtain ⟨c0, c1, c2, hz⟩ := b0.three (Below.refl _ _)
  obtain ⟨⟨x0, x1, x2⟩, ⟨x3, x4, x5⟩, ⟨x6, x7, x8⟩, hz1⟩ := b1.nine (Below.refl _ _)
  go_loopw [5] (fun i wr => ((i = .int .i64 0) ∨ (i = .int .i64 1 ∧ Hid ((t0 && b.a == 1) = false)) ∨ (i = .int .i64 2 ∧ Hid ((t0 && b.a == 1) = false) ∧ Hid ((t1 && b.b == 1) = false)) ∨ (i = .int .i64 3 ∧ Hid ((t0 && b.a == 1) = false) ∧ Hid ((t1 && b.b == 1) = false) ∧ Hid ((t2 && b.c == 1) = false))) ∧ wr = W) (fun i _ => 3 - (RowKit.intOf i).toNat)
  case atStart => exact ⟨.inl rfl, rfl⟩
  case round =>
    obtain ⟨hi, rfl⟩ := hrel
    rcases hi with rfl | ⟨rfl, h0⟩ | ⟨rfl, h0, h1⟩ | ⟨rfl, h0, h1, h2⟩
    · cases t0
      · go_wp2
        go_roundw
        case rel => exact ⟨.inr (.inl ⟨rfl, by show _ = _; simp⟩), by trivial⟩
        case measure => simp [RowKit.intOf]
      · cases hq : b.a == 1
        · go_wp2
          go_roundw
          case rel => exact ⟨.inr (.inl ⟨rfl, by show _ = _; simp⟩), by trivial⟩
          case measure => simp [RowKit.intOf]
        · go_wp2
          go_ret
          exact ⟨by rw [HA.out, HT.out, hq]; simp, hB0⟩
    · cases t1
      · go_wp2
        go_roundw
        case rel => exact ⟨.inr (.inr (.inl ⟨rfl, h0, by show _ = _; simp⟩)), by trivial⟩
        case measure => simp [RowKit.intOf]
      · cases hq : b.b == 1
        · go_wp2
          go_roundw
          case rel => exact ⟨.inr (.inr (.inl ⟨rfl, h0, by show _ = _; simp⟩)), by trivial⟩
          case measure => simp [RowKit.intOf]
        · go_wp2
          go_ret
          exact ⟨by rw [HA.out, HT.out, hq]; simp, hB0⟩
    · cases t2
      · go_wp2
        go_roundw
        case rel => exact ⟨.inr (.inr (.inr ⟨rfl, h0, h1, by show _ = _; simp⟩)), by trivial⟩
        case measure => simp [RowKit.intOf]
      · cases hq : b.c == 1
        · go_wp2
          go_roundw
          case rel => exact ⟨.inr (.inr (.inr ⟨rfl, h0, h1, by show _ = _; simp⟩)), by trivial⟩
          case measure => simp [RowKit.intOf]
        · go_wp2
          go_ret
          exact ⟨by rw [HA.out, HT.out, hq]; simp, hB0⟩
    · have e0 := Ext.cell b0 0
      have e1 := Ext.cell b0 1
      have e2 := Ext.cell b0 2
      have f0 := Ext.cell b1 0
      have f1 := Ext.cell b1 1
      have f2 := Ext.cell b1 2
      have f3 := Ext.cell b1 3
      have f4 := Ext.cell b1 4
      have f5 := Ext.cell b1 5
      simp at e0 e1 e2 f0 f1 f2 f3 f4 f5
      have EA : Hid (ans = (mb && sm)) := by show _ = _; rw [HA.out, HT.out, h0.out, h1.out, h2.out]; simp
      clear HA HT h0 h1 h2
      cases mb
      · go_wp2_with fail
        refine wp_region_look hmx (by kernel_rfl) ?_
        repeat (go_big_quiet_step ((first | (go_at_call 32; exact calls_ext (HM.out _)) | (go_at_call 81; exact calls_ext (HC.out _)))))
        refine wpQuiet_nil ?_
        intro x
        go_wp2
        go_ret
        exact ⟨by rw [EA.out]; rfl, then_below hB0 x.le⟩
      · have E : sm = (same3 c.x c.y c.z b.x b.y b.z && same3 c.a c.b c.c b.a b.b b.c) := HS.out
        cases q1 : same3 c.x c.y c.z b.x b.y b.z
        · rw [q1] at E
          go_wp2_with fail
          refine wp_region_look hmx (by kernel_rfl) ?_
          repeat (go_big_quiet_step ((first | (go_at_call 32; exact calls_ext (HM.out _)) | (go_at_call 81; exact calls_ext (HC.out _)))))
          refine wpQuiet_nil ?_
          intro x
          go_wp2
          go_ret
          exact ⟨by rw [EA.out, E]; rfl, then_below hB0 x.le⟩
        · cases q2 : same3 c.a c.b c.c b.a b.b b.c
          · rw [q1, q2] at E
            go_wp2_with fail
            refine wp_region_look hmx (by kernel_rfl) ?_
            repeat (go_big_quiet_step ((first | (go_at_call 32; exact calls_ext (HM.out _)) | (go_at_call 81; exact calls_ext (HC.out _)))))
            refine wpQuiet_nil ?_
            intro x
            go_wp2
            go_ret
            exact ⟨by rw [EA.out, E]; rfl, then_below hB0 x.le⟩
          · rw [q1, q2] at E
            go_wp2_with fail
            refine wp_region_look hmx (by kernel_rfl) ?_
            repeat (go_big_quiet_step ((first | (go_at_call 32; exact calls_ext (HM.out _)) | (go_at_call 81; exact calls_ext (HC.out _)))))
            refine wpQuiet_nil ?_
            intro x
            go_wp2
            go_ret
            exact ⟨by rw [EA.out, E]; rfl, then_below hB0 x.le⟩

set_option maxRecDepth 100000 in
set_option maxHeartbeats 4000000 in
theorem rpcheck_calls (d0 d1 d2 : Int) (b : Bx) (t0 t1 t2 : Bool) (w : World) :
    Calls Tryz.prog 28 #[A3 d0 d1 d2, P9 b t0 t1 t2] w fun e W' => e = .returned (I (errP d0 d1 d2 b t0 t1 t2)) ∧ Below w.heap.size w W' := by
  have HP : Hid (∀ w, Calls Tryz.prog 56 #[A3 d0 d1 d2, P9 b t0 t1 t2] w fun e W' => e = .returned (.bool (mayPB d0 d1 d2 b t0 t1 t2)) ∧ Below w.heap.size w W') := fun w => rpmay_calls d0 d1 d2 b t0 t1 t2 w
  have HE : Hid (errP d0 d1 d2 b t0 t1 t2 = if okDB d0 d1 d2 then codeOf (mayPB d0 d1 d2 b t0 t1 t2) else 8) := rfl
  by_cases hm : mayD d0 d1 d2
  · have HM : Hid (∀ w, Calls Tryz.prog 50 #[A3 d0 d1 d2] w fun e W' => e = .returned (.bool true) ∧ Below w.heap.size w W') := fun w => rmay_yes w hm
    have E : Hid (errP d0 d1 d2 b t0 t1 t2 = codeOf (mayPB d0 d1 d2 b t0 t1 t2)) := by show _ = _; rw [HE.out, (okDB_iff _ _ _).2 hm]; rfl
    generalize mayPB d0 d1 d2 b t0 t1 t2 = mp at *
    generalize errP d0 d1 d2 b t0 t1 t2 = er at *
    clear hm HE
    go_enter Tryz.func28, Tryz.ntmps28
    go_wp2_with fail
    obtain ⟨W, hW, hB0, b0, b1⟩ := two_start w #[I d0, I d1, I d2] (C9 b t0 t1 t2) 23 32
    rw [hW]
    clear hW
    refine (HM.out _).mono ?_
    rintro e w1 ⟨rfl, hT⟩
    obtain ⟨c0, c1, c2, hz⟩ := b0.three hT
    obtain ⟨⟨x0, x1, x2⟩, ⟨x3, x4, x5⟩, ⟨x6, x7, x8⟩, hz1⟩ := b1.nine hT
    go_wp2_with fail
    refine (HP.out _).mono ?_
    rintro e w2 ⟨rfl, hT2⟩
    cases mp
    · go_wp2
      go_ret
      exact ⟨by rw [E.out]; rfl, then_below hB0 (then_below hT hT2)⟩
    · go_wp2
      go_ret
      exact ⟨by rw [E.out]; rfl, then_below hB0 (then_below hT hT2)⟩
  · have HM : Hid (∀ w, Calls Tryz.prog 50 #[A3 d0 d1 d2] w fun e W' => e = .returned (.bool false) ∧ Below w.heap.size w W') := fun w => rmay_no w hm
    have E : Hid (errP d0 d1 d2 b t0 t1 t2 = 8) := by
      show _ = _
      rw [HE.out, show okDB d0 d1 d2 = false by
        cases h : okDB d0 d1 d2
        · rfl
        · exact absurd ((okDB_iff _ _ _).1 h) hm]
      rfl
    generalize errP d0 d1 d2 b t0 t1 t2 = er at *
    clear hm HE
    go_enter Tryz.func28, Tryz.ntmps28
    go_wp2_with fail
    obtain ⟨W, hW, hB0, b0, b1⟩ := two_start w #[I d0, I d1, I d2] (C9 b t0 t1 t2) 23 32
    rw [hW]
    clear hW
    refine (HM.out _).mono ?_
    rintro e w1 ⟨rfl, hT⟩
    go_wp2
    go_ret
    exact ⟨by rw [E.out]; rfl, then_below hB0 hT⟩

end Go.Proofs.YtlahfffgmfjpaaaGreatDoor

/-
  tidehallref12.Is.
-/
namespace Go.Proofs.YtlahfffgmfjpaaaGreatDoor
open Go Go.RowKit Go.Shelf Go.Maps

attribute [local go_sem] Oper.semAt_some ext_const ixI0 ixI1 ixI2

set_option maxRecDepth 100000 in
set_option maxHeartbeats 8000000 in
theorem ris_calls (d0 d1 d2 x y z : Int) (f g h t : Bool) (b : Bx) (p q r : Bool) (w : World) :
    Calls Tryz.prog 9 #[A3 d0 d1 d2, V7 x y z f g h t, P9 b p q r] w fun e W' => e = .returned (.tuple #[.bool (isB d0 d1 d2 (x, y, z, f, g, h, t) b p q r), I (isE d0 d1 d2 (x, y, z, f, g, h, t) b p q r)]) ∧ Below w.heap.size w W' := by
  have HM : Hid (∀ w, Calls Tryz.prog 21 #[A3 d0 d1 d2, V7 x y z f g h t] w fun e W' => e = .returned (.bool (okDB d0 d1 d2 && okDB x y z)) ∧ Below w.heap.size w W') := fun w => smay_calls d0 d1 d2 x y z f g h t w
  have HC : Hid (∀ w, Calls Tryz.prog 28 #[A3 d0 d1 d2, P9 b p q r] w fun e W' => e = .returned (I (errP d0 d1 d2 b p q r)) ∧ Below w.heap.size w W') := fun w => rpcheck_calls d0 d1 d2 b p q r w
  have HOf : Hid (okDB x y z = true → ∀ w, Calls Tryz.prog 29 #[V7 x y z f g h t, P9 b p q r] w fun e W' => e = .returned (.bool (isT (turnsT (x, y, z, f, g, h, t)) (b, p, q, r))) ∧ Below w.heap.size w W') := fun hk w => sof_calls x y z f g h t b p q r w (mayT_D.2 ((okDB_iff _ _ _).1 hk))
  have HE : Hid (isE d0 d1 d2 (x, y, z, f, g, h, t) b p q r = (if okDB d0 d1 d2 && okDB x y z then errP d0 d1 d2 b p q r else 8) ∧ isB d0 d1 d2 (x, y, z, f, g, h, t) b p q r = (decide (isE d0 d1 d2 (x, y, z, f, g, h, t) b p q r = 0) && isT (turnsT (x, y, z, f, g, h, t)) (b, p, q, r))) := ⟨rfl, rfl⟩
  have hk2 : (okDB d0 d1 d2 && okDB x y z) = true → okDB x y z = true := fun h => ((Bool.and_eq_true _ _).mp h).2
  replace HOf : Hid ((okDB d0 d1 d2 && okDB x y z) = true → ∀ w, Calls Tryz.prog 29 #[V7 x y z f g h t, P9 b p q r] w fun e W' => e = .returned (.bool (isT (turnsT (x, y, z, f, g, h, t)) (b, p, q, r))) ∧ Below w.heap.size w W') := fun h => HOf.out (hk2 h)
  clear hk2
  generalize isE d0 d1 d2 (x, y, z, f, g, h, t) b p q r = er at *
  generalize isB d0 d1 d2 (x, y, z, f, g, h, t) b p q r = bb at *
  generalize isT (turnsT (x, y, z, f, g, h, t)) (b, p, q, r) = ti at *
  generalize errP d0 d1 d2 b p q r = ep at *
  obtain ⟨W, hW, hB0, k0, k1, k2⟩ := three_is w #[I d0, I d1, I d2] #[I x, I y, I z, .bool f, .bool g, .bool h, .bool t] (C9 b p q r) 23 26 32
  have HW : Hid (((w.alloc (.cells #[I d0, I d1, I d2] 23)).alloc (.cells #[I x, I y, I z, .bool f, .bool g, .bool h, .bool t] 26)).alloc (.cells (C9 b p q r) 32) = W) := hW
  clear hW
  generalize hmb : (okDB d0 d1 d2 && okDB x y z) = mb at *
  clear hmb
  obtain ⟨a0, a1, a2, az⟩ := k0.three (Below.refl _ _)
  obtain ⟨s0, s1, s2, s3, s4, s5, s6⟩ := k1.seven
  have sz := k1.lt
  go_enter Tryz.func9, Tryz.ntmps9
  go_wp2_with fail
  rw [HW.out]
  refine (HM.out _).mono ?_
  rintro e w1 ⟨rfl, hB⟩
  have hT := then_below hB0 hB
  replace k0 := k0.later hB
  replace k1 := k1.later hB
  replace k2 := k2.later hB
  clear hB hB0 HW HM a0 a1 a2 az s0 s1 s2 s3 s4 s5 s6 sz W
  cases mb
  · have HR : Hid (er = 8 ∧ bb = false) := by
      obtain ⟨h1, h2⟩ := HE.out
      simp at h1
      exact ⟨h1, by rw [h2, h1]; rfl⟩
    clear HE HOf HC k0 k1 k2
    go_wp2
    go_ret2
    exact ⟨by rw [HR.out.1, HR.out.2]; rfl, hT⟩
  · have hOf := HOf.out (by trivial)
    have HO2 : Hid (∀ w, Calls Tryz.prog 29 #[V7 x y z f g h t, P9 b p q r] w fun e W' => e = .returned (.bool ti) ∧ Below w.heap.size w W') := hOf
    have HR : Hid (er = ep ∧ bb = (decide (ep = 0) && ti)) := by
      obtain ⟨h1, h2⟩ := HE.out
      simp at h1
      exact ⟨h1, by rw [h2, h1]⟩
    clear HE HOf hOf
    obtain ⟨a0, a1, a2, az⟩ := k0.three (Below.refl _ _)
    obtain ⟨⟨f0, f1, f2⟩, ⟨f3, f4, f5⟩, ⟨f6, f7, f8⟩, fz⟩ := k2.nine (Below.refl _ _)
    go_wp2_with fail
    refine (HC.out _).mono ?_
    rintro e w2 ⟨rfl, hB⟩
    replace hT := then_below hT hB
    replace k1 := k1.later hB
    replace k2 := k2.later hB
    clear hB HC a0 a1 a2 az f0 f1 f2 f3 f4 f5 f6 f7 f8 fz k0
    by_cases he : ep = 0
    · subst he
      have HR2 : Hid (er = 0 ∧ bb = ti) := by
        show _ ∧ _
        simpa using HR.out
      clear HR
      obtain ⟨s0, s1, s2, s3, s4, s5, s6⟩ := k1.seven
      have sz := k1.lt
      obtain ⟨⟨f0, f1, f2⟩, ⟨f3, f4, f5⟩, ⟨f6, f7, f8⟩, fz⟩ := k2.nine (Below.refl _ _)
      go_wp2_with fail
      refine (HO2.out _).mono ?_
      rintro e w3 ⟨rfl, hB⟩
      replace hT := then_below hT hB
      clear hB HO2 s0 s1 s2 s3 s4 s5 s6 sz f0 f1 f2 f3 f4 f5 f6 f7 f8 fz k1 k2
      go_wp2
      go_ret2
      exact ⟨by rw [HR2.out.1, HR2.out.2]; rfl, hT⟩
    · have HR2 : Hid (er = ep ∧ bb = false) := by
        obtain ⟨h1, h2⟩ := HR.out
        exact ⟨h1, by rw [h2, decide_eq_false he]; rfl⟩
      have g1 : decide (ep = 0) = false := by simpa using he
      have g2 : (ep != 0) = true := by simpa using he
      clear HR he HO2 k1 k2
      go_wp2
      go_ret2
      exact ⟨by rw [HR2.out.1, HR2.out.2]; rfl, hT⟩

end Go.Proofs.YtlahfffgmfjpaaaGreatDoor

/-
  The document's put of places at one midplane is its put of their kinds.
-/
namespace Go.Proofs.YtlahfffgmfjpaaaGreatDoor
open Go Go.RowKit Go.Shelf Go.Maps

theorem less_pl {d0 d1 m : Int} {a b : Wt} (ha : turnT a = false) (hb : turnT b = false) : lessP (plT d0 d1 m a) (plT d0 d1 m b) = lessT a b := by
  unfold lessP
  rw [kd_pl _ _ _ _ ha, kd_pl _ _ _ _ hb]
theorem fold_pl {d0 d1 m : Int} {k : Wt} (hk : turnT k = false) : ∀ (xs : List Wt) (s : List Wt × Bool), (∀ x ∈ xs, turnT x = false) →
    (xs.map (plT d0 d1 m)).foldl (stepQ (plT d0 d1 m k)) (s.1.map (plT d0 d1 m), s.2) = ((xs.foldl (stepP k) s).1.map (plT d0 d1 m), (xs.foldl (stepP k) s).2)
  | [], s, _ => rfl
  | x :: xs, s, h => by
    have hx := less_pl (d0 := d0) (d1 := d1) (m := m) hk (h x (by simp))
    have e : stepQ (plT d0 d1 m k) (s.1.map (plT d0 d1 m), s.2) (plT d0 d1 m x) = ((stepP k s x).1.map (plT d0 d1 m), (stepP k s x).2) := by
      unfold stepQ stepP
      rw [hx]
      dsimp only
      split <;> simp
    rw [List.map_cons, List.foldl_cons, List.foldl_cons, e, fold_pl hk xs _ fun y hy => h y (by simp [hy])]
/-- A place is put just where its kind is. -/
theorem put_pl {d0 d1 m : Int} {k : Wt} {ks : List Wt} (hk : mayT k ∧ turnT k = false) (hs : ∀ x ∈ ks, mayT x ∧ turnT x = false) :
    putQ (ks.map (plT d0 d1 m)) (plT d0 d1 m k) = (putT ks k).map (plT d0 d1 m) := by
  have hin : plT d0 d1 m k ∈ ks.map (plT d0 d1 m) ↔ k ∈ ks := by
    rw [List.mem_map]
    constructor
    · rintro ⟨x, hx, e⟩
      have := congrArg kdP e
      rw [kd_pl _ _ _ _ (hs x hx).2, kd_pl _ _ _ _ hk.2] at this
      exact this ▸ hx
    · exact fun h => ⟨k, h, rfl⟩
  by_cases h : k ∈ ks
  · unfold putQ putT
    rw [if_pos (any_in.2 (hin.2 h)), if_pos h]
  · have h1 := fin_put hk.1 (fun x hx => (hs x hx).1) h
    rw [← h1]
    unfold putQ
    rw [if_neg (fun e => h (hin.1 (any_in.1 e)))]
    have h2 := fold_pl (d0 := d0) (d1 := d1) (m := m) hk.2 ks ([], false) fun x hx => (hs x hx).2
    unfold stQ stP
    rw [show (List.map (plT d0 d1 m) [] , false) = (([] : List Pl), false) from rfl] at h2
    rw [h2]
    unfold finQ finP
    split <;> simp

end Go.Proofs.YtlahfffgmfjpaaaGreatDoor

/-
  tidehallref01.Round, On, Step: the document's own answer for steps, for every input.
-/
namespace Go.Proofs.YtlahfffgmfjpaaaGreatDoor
open Go.RowKit Go.Shelf

attribute [local go_sem] Oper.semAt_some ext_const eq_arr

theorem rround_calls {n d : Int} (w : World) (h1 : 1 ≤ d) (h2 : d ≤ 16) : Calls Tryz.prog 147 #[I n, I d] w fun e W' => e = .returned (I (n % d)) ∧ W' = w := by
  obtain ⟨t1, t2, _⟩ := tmod_bd n d h1
  have e1 := Int.emod_nonneg n (b := d) (by omega)
  have e2 := Int.emod_lt_of_pos n (b := d) (by omega)
  have e3 : n.tmod d = n % d ∨ n.tmod d + d = n % d := by
    have a := Int.tmod_add_mul_tdiv n d
    have b := Int.emod_add_mul_ediv n d
    have c : (n.tmod d) % d = n % d := by
      conv => rhs; rw [← a, Int.add_mul_emod_self_left]
    rcases Int.lt_or_le (n.tmod d) 0 with h | h
    · right
      rw [← c, ← Int.add_emod_right, Int.emod_eq_of_lt (by omega) (by omega)]
    · left
      rw [← c, Int.emod_eq_of_lt h (by omega)]
  by_cases hn : n.tmod d < 0
  · have E : Hid (n.tmod d + d = n % d) := by show _ = _; omega
    clear e3 e1 e2
    go_enter Tryz.func147, Tryz.ntmps147
    go_wp2
    go_ret
    rw [← E.out]
    exact ⟨rfl, rfl⟩
  · have E : Hid (n.tmod d = n % d) := by show _ = _; omega
    clear e3 e1 e2
    go_enter Tryz.func147, Tryz.ntmps147
    go_wp2
    go_ret
    rw [← E.out]
    exact ⟨rfl, rfl⟩

set_option maxRecDepth 100000 in
set_option maxHeartbeats 1000000 in
theorem ron_calls {d0 d1 d2 m by_ : Int} (w : World) (hm : mayD d0 d1 d2) (hn : 0 ≤ m ∧ m < d0 * d1 * d2) (k : Fin 3) :
    Calls Tryz.prog 142 #[A3 d0 d1 d2, I m, I (axI k), I by_] w fun x W' => x = .returned (I (onD d0 d1 d2 m k by_)) ∧ Below w.heap.size w W' := by
  have HN : Hid (0 ≤ m ∧ m < d0 * d1 * d2) := hn
  have hin := inD_of_node hm hn
  have hon := inD_on hm hn by_
  have hd := hm
  unfold inD at hin
  unfold mayD okD at hd
  clear hn
  rcases fin3 k with rfl | rfl | rfl
  · simp only [axI, onD]
    have HT : Hid ((cx d0 m + by_ % d0) % d0 = (cx d0 m + by_) % d0) := Int.add_emod_emod _ _ _
    have hr0 := Int.emod_nonneg by_ (b := d0) (by omega)
    have hr1 := Int.emod_lt_of_pos by_ (b := d0) (by omega)
    go_enter Tryz.func142, Tryz.ntmps142
    go_wp2_with fail
    refine (rwhere_calls _ hm HN.out).mono ?_
    rintro x w1 ⟨rfl, hB⟩
    go_wp2_with fail
    obtain ⟨W, hW⟩ : ∃ W, w1.alloc (.cells #[I (cx d0 m), I (cy d0 d1 m), I (cz d0 d1 m)] 22) = W := ⟨_, rfl⟩
    have q0 : Blk W w.heap.size 23 #[I d0, I d1, I d2] := hW ▸ ((Blk.new w 23 #[I d0, I d1, I d2]).later hB).alloc _
    have q1 : Blk W w1.heap.size 22 #[I (cx d0 m), I (cy d0 d1 m), I (cz d0 d1 m)] := hW ▸ Blk.new w1 _ _
    have hz : w.heap.size < w1.heap.size := by have := hB.size; simp at this; omega
    have hBW : Below w.heap.size w W := hW ▸ (((Below.refl _ w).alloc (Nat.le_refl _) _).trans (hB.mono (by simp))).alloc (by omega) _
    rw [hW]
    clear hW hB
    have hmx : Tryz.prog.follows .mixedOrders = true := by kernel_rfl
    have e0 := Ext.cell q0 0
    have e1 := Ext.cell q1 0
    simp at e0 e1
    refine wp_region_tail 15 hmx (by kernel_rfl) ?_
    simp only [List.take_succ_cons, List.take_zero, List.drop_succ_cons, List.drop_zero]
    repeat (go_big_quiet_step (exact calls_ext_same (rround_calls _ (by omega) (by omega))))
    refine wpQuiet_nil ?_
    intro x
    have r0 := q0.later x.le
    have r1 := q1.later x.le
    have c1 := r1.cell 0
    have f1 := r1.frozen 0
    simp at c1
    gi_wp2
    rw [HT.out]
    have r0' := r0.other (B' := w1.heap.size) 0 (.int .i64 ((cx d0 m + by_) % d0)) (by omega)
    have r1' := r1.set 0 (.int .i64 ((cx d0 m + by_) % d0))
    have hBX := (below_ext hBW x).setCell (p := ⟨w1.heap.size, 0, none⟩) (by simp; omega) (.int .i64 ((cx d0 m + by_) % d0))
    generalize x.wd.setCell ⟨w1.heap.size, 0, none⟩ (.int .i64 ((cx d0 m + by_) % d0)) = W5 at *
    clear e0 e1 c1 f1 r0 r1 q0 q1 hBW
    have c0 := r0'.cell 0
    have c1 := r0'.cell 1
    have c2 := r0'.cell 2
    have k0 := r1'.cell 0
    have k1 := r1'.cell 1
    have k2 := r1'.cell 2
    simp at c0 c1 c2 k0 k1 k2
    go_wp2_with fail
    refine (rnum_calls _ hm hon.1).mono ?_
    rintro e w6 ⟨rfl, hB6⟩
    go_wp2
    go_ret
    exact ⟨rfl, hBX.trans (hB6.mono hBX.size)⟩
  · simp only [axI, onD]
    have HT : Hid ((cy d0 d1 m + by_ % d1) % d1 = (cy d0 d1 m + by_) % d1) := Int.add_emod_emod _ _ _
    have hr0 := Int.emod_nonneg by_ (b := d1) (by omega)
    have hr1 := Int.emod_lt_of_pos by_ (b := d1) (by omega)
    go_enter Tryz.func142, Tryz.ntmps142
    go_wp2_with fail
    refine (rwhere_calls _ hm HN.out).mono ?_
    rintro x w1 ⟨rfl, hB⟩
    go_wp2_with fail
    obtain ⟨W, hW⟩ : ∃ W, w1.alloc (.cells #[I (cx d0 m), I (cy d0 d1 m), I (cz d0 d1 m)] 22) = W := ⟨_, rfl⟩
    have q0 : Blk W w.heap.size 23 #[I d0, I d1, I d2] := hW ▸ ((Blk.new w 23 #[I d0, I d1, I d2]).later hB).alloc _
    have q1 : Blk W w1.heap.size 22 #[I (cx d0 m), I (cy d0 d1 m), I (cz d0 d1 m)] := hW ▸ Blk.new w1 _ _
    have hz : w.heap.size < w1.heap.size := by have := hB.size; simp at this; omega
    have hBW : Below w.heap.size w W := hW ▸ (((Below.refl _ w).alloc (Nat.le_refl _) _).trans (hB.mono (by simp))).alloc (by omega) _
    rw [hW]
    clear hW hB
    have hmx : Tryz.prog.follows .mixedOrders = true := by kernel_rfl
    have e0 := Ext.cell q0 1
    have e1 := Ext.cell q1 1
    simp at e0 e1
    refine wp_region_tail 15 hmx (by kernel_rfl) ?_
    simp only [List.take_succ_cons, List.take_zero, List.drop_succ_cons, List.drop_zero]
    repeat (go_big_quiet_step (exact calls_ext_same (rround_calls _ (by omega) (by omega))))
    refine wpQuiet_nil ?_
    intro x
    have r0 := q0.later x.le
    have r1 := q1.later x.le
    have c1 := r1.cell 1
    have f1 := r1.frozen 1
    simp at c1
    gi_wp2
    rw [HT.out]
    have r0' := r0.other (B' := w1.heap.size) 1 (.int .i64 ((cy d0 d1 m + by_) % d1)) (by omega)
    have r1' := r1.set 1 (.int .i64 ((cy d0 d1 m + by_) % d1))
    have hBX := (below_ext hBW x).setCell (p := ⟨w1.heap.size, 1, none⟩) (by simp; omega) (.int .i64 ((cy d0 d1 m + by_) % d1))
    generalize x.wd.setCell ⟨w1.heap.size, 1, none⟩ (.int .i64 ((cy d0 d1 m + by_) % d1)) = W5 at *
    clear e0 e1 c1 f1 r0 r1 q0 q1 hBW
    have c0 := r0'.cell 0
    have c1 := r0'.cell 1
    have c2 := r0'.cell 2
    have k0 := r1'.cell 0
    have k1 := r1'.cell 1
    have k2 := r1'.cell 2
    simp at c0 c1 c2 k0 k1 k2
    go_wp2_with fail
    refine (rnum_calls _ hm hon.2.1).mono ?_
    rintro e w6 ⟨rfl, hB6⟩
    go_wp2
    go_ret
    exact ⟨rfl, hBX.trans (hB6.mono hBX.size)⟩
  · simp only [axI, onD]
    have HT : Hid ((cz d0 d1 m + by_ % d2) % d2 = (cz d0 d1 m + by_) % d2) := Int.add_emod_emod _ _ _
    have hr0 := Int.emod_nonneg by_ (b := d2) (by omega)
    have hr1 := Int.emod_lt_of_pos by_ (b := d2) (by omega)
    go_enter Tryz.func142, Tryz.ntmps142
    go_wp2_with fail
    refine (rwhere_calls _ hm HN.out).mono ?_
    rintro x w1 ⟨rfl, hB⟩
    go_wp2_with fail
    obtain ⟨W, hW⟩ : ∃ W, w1.alloc (.cells #[I (cx d0 m), I (cy d0 d1 m), I (cz d0 d1 m)] 22) = W := ⟨_, rfl⟩
    have q0 : Blk W w.heap.size 23 #[I d0, I d1, I d2] := hW ▸ ((Blk.new w 23 #[I d0, I d1, I d2]).later hB).alloc _
    have q1 : Blk W w1.heap.size 22 #[I (cx d0 m), I (cy d0 d1 m), I (cz d0 d1 m)] := hW ▸ Blk.new w1 _ _
    have hz : w.heap.size < w1.heap.size := by have := hB.size; simp at this; omega
    have hBW : Below w.heap.size w W := hW ▸ (((Below.refl _ w).alloc (Nat.le_refl _) _).trans (hB.mono (by simp))).alloc (by omega) _
    rw [hW]
    clear hW hB
    have hmx : Tryz.prog.follows .mixedOrders = true := by kernel_rfl
    have e0 := Ext.cell q0 2
    have e1 := Ext.cell q1 2
    simp at e0 e1
    refine wp_region_tail 15 hmx (by kernel_rfl) ?_
    simp only [List.take_succ_cons, List.take_zero, List.drop_succ_cons, List.drop_zero]
    repeat (go_big_quiet_step (exact calls_ext_same (rround_calls _ (by omega) (by omega))))
    refine wpQuiet_nil ?_
    intro x
    have r0 := q0.later x.le
    have r1 := q1.later x.le
    have c1 := r1.cell 2
    have f1 := r1.frozen 2
    simp at c1
    gi_wp2
    rw [HT.out]
    have r0' := r0.other (B' := w1.heap.size) 2 (.int .i64 ((cz d0 d1 m + by_) % d2)) (by omega)
    have r1' := r1.set 2 (.int .i64 ((cz d0 d1 m + by_) % d2))
    have hBX := (below_ext hBW x).setCell (p := ⟨w1.heap.size, 2, none⟩) (by simp; omega) (.int .i64 ((cz d0 d1 m + by_) % d2))
    generalize x.wd.setCell ⟨w1.heap.size, 2, none⟩ (.int .i64 ((cz d0 d1 m + by_) % d2)) = W5 at *
    clear e0 e1 c1 f1 r0 r1 q0 q1 hBW
    have c0 := r0'.cell 0
    have c1 := r0'.cell 1
    have c2 := r0'.cell 2
    have k0 := r1'.cell 0
    have k1 := r1'.cell 1
    have k2 := r1'.cell 2
    simp at c0 c1 c2 k0 k1 k2
    go_wp2_with fail
    refine (rnum_calls _ hm hon.2.2).mono ?_
    rintro e w6 ⟨rfl, hB6⟩
    go_wp2
    go_ret
    exact ⟨rfl, hBX.trans (hB6.mono hBX.size)⟩

theorem ron_ax {d0 d1 d2 m ax by_ : Int} {k : Fin 3} (w : World) (hm : mayD d0 d1 d2) (hn : 0 ≤ m ∧ m < d0 * d1 * d2) (hk : ax = axI k) :
    Calls Tryz.prog 142 #[A3 d0 d1 d2, I m, I ax, I by_] w fun x W' => x = .returned (I (onD d0 d1 d2 m k by_)) ∧ Below w.heap.size w W' := by
  subst hk; exact ron_calls w hm hn k

end Go.Proofs.YtlahfffgmfjpaaaGreatDoor

/-
  What the document's own answer for layer 5 (tidehallref05) gives: asked, Many, Link; nothing that lay before is turned.
-/
namespace Go.Proofs.YtlahfffgmfjpaaaGreatDoor
open Go.RowKit Go.Shelf

attribute [local go_sem] Oper.semAt_some ext_const

end Go.Proofs.YtlahfffgmfjpaaaGreatDoor

/-
  What the document's own answer for layer 5 (tidehallref05) gives: Ends; nothing that lay before is turned.
-/
namespace Go.Proofs.YtlahfffgmfjpaaaGreatDoor
open Go.RowKit Go.Shelf

attribute [local go_sem] Oper.semAt_some ext_const

end Go.Proofs.YtlahfffgmfjpaaaGreatDoor

/-
  What the document's own answer for layer 5 (tidehallref05) gives: Among, taken: the cables from so many midplanes on, rising, in new memory.
-/
namespace Go.Proofs.YtlahfffgmfjpaaaGreatDoor
open Go Go.RowKit Go.Shelf

attribute [local go_sem] Oper.semAt_some ext_const

theorem among_false {d0 d1 d2 m o : Int} {k : Fin 3} {many : Nat} (h : ∀ i : Nat, i < many → onD d0 d1 d2 m k i ≠ o) : amongW d0 d1 d2 m k many o = false := by
  cases e : amongW d0 d1 d2 m k many o
  · rfl
  · obtain ⟨i, hi, he⟩ := among_iff.1 e
    exact absurd he (h i hi)

set_option maxRecDepth 100000 in
set_option maxHeartbeats 2000000 in
theorem among_calls {d0 d1 d2 m ax : Int} (w : World) (hm : mayD d0 d1 d2) (hn : 0 ≤ m ∧ m < d0 * d1 * d2) {k : Fin 3} (hk : ax = axI k) (many : Nat) (hmn : many ≤ 16) (o : Int) :
    Calls Tryz.prog 136 #[A3 d0 d1 d2, I ax, I m, I (many : Int), I o] w fun e W' => e = .returned (.bool (amongW d0 d1 d2 m k many o)) ∧ Below w.heap.size w W' := by
  have HO : Hid (∀ (i : Int) w, Calls Tryz.prog 142 #[A3 d0 d1 d2, I m, I ax, I i] w fun x W' => x = .returned (I (onD d0 d1 d2 m k i)) ∧ Below w.heap.size w W') := fun i w => ron_ax w hm hn hk
  have HY : Hid (∀ i : Nat, i < many → onD d0 d1 d2 m k i = o → amongW d0 d1 d2 m k many o = true) := fun i hi he => among_iff.2 ⟨i, hi, he⟩
  have HF : Hid ((∀ i : Nat, i < many → onD d0 d1 d2 m k i ≠ o) → amongW d0 d1 d2 m k many o = false) := among_false
  generalize amongW d0 d1 d2 m k many o = ans at *
  clear hk hn
  go_enter Tryz.func136, Tryz.ntmps136
  have b0 := Blk.new w 23 #[I d0, I d1, I d2]
  have hB0 : Below w.heap.size w (w.alloc (.cells #[I d0, I d1, I d2] 23)) := (Below.refl _ w).alloc (Nat.le_refl _) _
  go_wp2
  generalize w.alloc (.cells #[I d0, I d1, I d2] 23) = W at *
  go_loopw [11] (fun i wr => ∃ j : Nat, j ≤ many ∧ i = .int .i64 j ∧ Hid (∀ i : Nat, i < j → onD d0 d1 d2 m k i ≠ o) ∧ Below W.heap.size W wr) (fun i _ => many - (RowKit.intOf i).toNat)
  case atStart => exact ⟨0, by omega, rfl, fun i hi => by omega, Below.refl _ _⟩
  case round =>
    obtain ⟨j, hj, rfl, HJ, hT⟩ := hrel
    by_cases hlt : (j : Int) < (many : Int)
    · obtain ⟨c0, c1, c2, hz⟩ := b0.three hT
      have HN : Hid (onD d0 d1 d2 m k j ≠ o → ∀ i : Nat, i < j + 1 → onD d0 d1 d2 m k i ≠ o) := fun hne i hi => by
        rcases Nat.lt_succ_iff_lt_or_eq.1 hi with h | rfl
        · exact HJ.out i h
        · exact hne
      have HE : Hid (onD d0 d1 d2 m k j = o → ans = true) := HY.out j (by omega)
      have HC : Hid (∀ w, Calls Tryz.prog 142 #[A3 d0 d1 d2, I m, I ax, I (j : Int)] w fun x W' => x = .returned (I (onD d0 d1 d2 m k j)) ∧ Below w.heap.size w W') := HO.out j
      generalize onD d0 d1 d2 m k (j : Int) = p at HN HE HC
      go_wp2_with fail
      refine (HC.out _).mono ?_
      rintro x w1 ⟨rfl, hB1⟩
      cases hq : (p == o)
      · go_wp2
        go_roundw
        case rel => exact ⟨j + 1, by omega, by go_num, HN.out (by simpa using hq), then_below hT hB1⟩
        case measure => simp [RowKit.intOf]; omega
      · have E : ans = true := HE.out (by simpa using hq)
        subst E
        go_wp2
        go_ret
        exact ⟨rfl, then_below hB0 (then_below hT hB1)⟩
    · have E : ans = false := HF.out fun i hi => HJ.out i (by omega)
      subst E
      go_wp2
      go_ret
      exact ⟨rfl, then_below hB0 hT⟩

/-- Of the first t midplanes those among so many from m on: their cables. -/
def takeTo (d0 d1 d2 m : Int) (k : Fin 3) (many t : Nat) : List Int := ((List.range t).filter fun o : Nat => amongW d0 d1 d2 m k many (o : Int)).map fun o : Nat => cabW d0 d1 d2 k (o : Int)
theorem takeTo_len (d0 d1 d2 m : Int) (k : Fin 3) (many t : Nat) : (takeTo d0 d1 d2 m k many t).length ≤ t := by
  have := List.length_filter_le (fun o : Nat => amongW d0 d1 d2 m k many (o : Int)) (List.range t)
  simpa [takeTo] using this
theorem takeTo_yes {d0 d1 d2 m : Int} {k : Fin 3} {many t : Nat} (h : amongW d0 d1 d2 m k many (t : Int) = true) : takeTo d0 d1 d2 m k many (t + 1) = takeTo d0 d1 d2 m k many t ++ [cabW d0 d1 d2 k (t : Int)] := by
  simp [takeTo, List.range_succ, List.filter_append, h]
theorem takeTo_no {d0 d1 d2 m : Int} {k : Fin 3} {many t : Nat} (h : amongW d0 d1 d2 m k many (t : Int) = false) : takeTo d0 d1 d2 m k many (t + 1) = takeTo d0 d1 d2 m k many t := by
  simp [takeTo, List.range_succ, List.filter_append, h]
theorem takeTo_all {d0 d1 d2 m : Int} {k : Fin 3} {many : Nat} (h : 1 < dimAt d0 d1 d2 k) : takeTo d0 d1 d2 m k many (d0 * d1 * d2).toNat = cablesW d0 d1 d2 m k many := by
  unfold takeTo cablesW nodesW
  rw [if_pos h]

set_option maxRecDepth 100000 in
set_option maxHeartbeats 2000000 in
theorem taken_one {d0 d1 d2 m ax : Int} (w : World) (hm : mayD d0 d1 d2) {k : Fin 3} (hk : ax = axI k) (h1 : ¬ 1 < dimAt d0 d1 d2 k) (many : Int) :
    Calls Tryz.prog 128 #[A3 d0 d1 d2, I ax, I m, I many] w fun e W' => e = .returned (.slice none 0 0) ∧ Below w.heap.size w W' := by
  have hN := N_bd hm
  have HM : Hid (∀ w, Calls Tryz.prog 22 #[A3 d0 d1 d2] w fun e W' => e = .returned (I (d0 * d1 * d2)) ∧ Below w.heap.size w W') := fun w => rn_calls w hm
  subst hk
  generalize d0 * d1 * d2 = N at *
  clear hm
  have hN0 : 0 < N := by omega
  rcases fin3 k with rfl | rfl | rfl
  all_goals
    simp only [axI, dimAt] at *
    go_enter Tryz.func128, Tryz.ntmps128
    go_wp2_with fail
    refine (HM.out _).mono ?_
    rintro x w1 ⟨rfl, hB⟩
    have hBW := then_below ((Below.refl _ w).alloc (Nat.le_refl _) (.cells #[I d0, I d1, I d2] 23)) hB
    have g0 := (Blk.new w _ _).later hB
    have c0 := g0.cell 0
    have c1 := g0.cell 1
    have c2 := g0.cell 2
    simp at c0 c1 c2
    go_wp2
    go_loopw [9, 11] (fun v i wr => (v = .slice none 0 0 ∧ i = .int .i64 0) ∧ wr = w1) (fun _ _ _ => 0)
    case atStart => exact ⟨⟨rfl, rfl⟩, by trivial⟩
    case round =>
      obtain ⟨⟨rfl, rfl⟩, hw⟩ := hrel
      subst hw
      go_wp2
      go_ret
      exact ⟨rfl, hBW⟩

set_option maxRecDepth 100000 in
set_option maxHeartbeats 4000000 in
theorem taken_more {d0 d1 d2 m ax : Int} (w : World) (hm : mayD d0 d1 d2) (hn : 0 ≤ m ∧ m < d0 * d1 * d2) {k : Fin 3} (hk : ax = axI k) (h1 : 1 < dimAt d0 d1 d2 k) (many : Nat) (hmn : many ≤ 16) :
    Calls Tryz.prog 128 #[A3 d0 d1 d2, I ax, I m, I (many : Int)] w fun e W' => ∃ v, e = .returned v ∧ Lst W' w.heap.size v (cablesW d0 d1 d2 m k many) ∧ Below w.heap.size w W' := by
  have hN := N_bd hm
  rw [← takeTo_all h1]
  have HM : Hid (∀ w, Calls Tryz.prog 22 #[A3 d0 d1 d2] w fun e W' => e = .returned (I (d0 * d1 * d2)) ∧ Below w.heap.size w W') := fun w => rn_calls w hm
  have HA : Hid (∀ (o : Int) w, Calls Tryz.prog 136 #[A3 d0 d1 d2, I (axI k), I m, I (many : Int), I o] w fun e W' => e = .returned (.bool (amongW d0 d1 d2 m k many o)) ∧ Below w.heap.size w W') := fun o w => among_calls w hm hn rfl many hmn o
  have HY : Hid (∀ t : Nat, amongW d0 d1 d2 m k many (t : Int) = true → takeTo d0 d1 d2 m k many (t + 1) = takeTo d0 d1 d2 m k many t ++ [axI k * (d0 * d1 * d2) + (t : Int)]) := fun t h => takeTo_yes h
  have HF : Hid (∀ t : Nat, amongW d0 d1 d2 m k many (t : Int) = false → takeTo d0 d1 d2 m k many (t + 1) = takeTo d0 d1 d2 m k many t) := fun t h => takeTo_no h
  have HL : Hid (∀ t : Nat, (takeTo d0 d1 d2 m k many t).length ≤ t) := fun t => takeTo_len d0 d1 d2 m k many t
  have H0 : takeTo d0 d1 d2 m k many 0 = [] := rfl
  subst hk
  generalize d0 * d1 * d2 = N at *
  generalize takeTo d0 d1 d2 m k many = T at *
  generalize amongW d0 d1 d2 m k many = A at *
  clear hn hm
  rcases fin3 k with rfl | rfl | rfl
  all_goals
    simp only [axI, dimAt] at *
    go_enter Tryz.func128, Tryz.ntmps128
    go_wp2_with fail
    refine (HM.out _).mono ?_
    rintro x w1 ⟨rfl, hB⟩
    have hBW := then_below ((Below.refl _ w).alloc (Nat.le_refl _) (.cells #[I d0, I d1, I d2] 23)) hB
    have g0 := (Blk.new w _ _).later hB
    clear hB
    go_wp2
    go_loopw [9, 11] (fun v i wr => ∃ t : Nat, (t : Int) ≤ N ∧ i = .int .i64 t ∧ Lst wr w1.heap.size v (T t) ∧ Below w1.heap.size w1 wr) (fun _ i _ => N.toNat - (RowKit.intOf i).toNat)
    case atStart => exact ⟨0, by omega, rfl, by rw [H0]; exact Lst.nil _ _, Below.refl _ _⟩
    case round =>
      obtain ⟨t, ht, rfl, hL, hT⟩ := hrel
      obtain ⟨c0, c1, c2, hz⟩ := g0.three hT
      by_cases hlt : (t : Int) < N
      · go_wp2_with fail
        refine (HA.out _ _).mono ?_
        rintro x w2 ⟨rfl, hB2⟩
        have hL := hL.later hB2
        have hT := then_below hT hB2
        clear c0 c1 c2 hz hB2
        cases hq : A (t : Int)
        · go_wp2
          go_roundw
          case rel => exact ⟨t + 1, by omega, by go_num, by rw [HF.out t hq]; exact hL, hT⟩
          case measure => simp [RowKit.intOf]; omega
        · go_wp2_with (at_builtin; refine wpList_app rfl _ _ rfl rfl rfl hL (by have := HL.out t; omega) hT.size ?_; intro v' w3 hL3 hT3)
          have hT := hT.trans hT3
          have e := HY.out t hq
          (try simp only [Int.zero_mul, Int.one_mul, Int.zero_add] at e)
          rw [← e] at hL3
          clear e hT3 hL
          go_roundw
          case rel => exact ⟨t + 1, by omega, by go_num, hL3, hT⟩
          case measure => simp [RowKit.intOf]; omega
      · have E : N.toNat = t := by omega
        have hL' : Lst wr w.heap.size _ (T N.toNat) := (E ▸ hL).weak hBW.size
        clear hL E
        go_wp2
        go_ret
        exact ⟨_, rfl, hL', then_below hBW hT⟩

theorem taken_any {d0 d1 d2 m ax : Int} (w : World) (hm : mayD d0 d1 d2) (hn : 0 ≤ m ∧ m < d0 * d1 * d2) {k : Fin 3} (hk : ax = axI k) {z : Int} (hz : 0 ≤ z ∧ z ≤ 16) :
    Calls Tryz.prog 128 #[A3 d0 d1 d2, I ax, I m, I z] w fun e W' => ∃ v, e = .returned v ∧ Lst W' w.heap.size v (cablesW d0 d1 d2 m k z.toNat) ∧ Below w.heap.size w W' := by
  obtain ⟨many, rfl⟩ : ∃ many : Nat, z = (many : Int) := ⟨z.toNat, by omega⟩
  rw [Int.toNat_natCast]
  by_cases h1 : 1 < dimAt d0 d1 d2 k
  · exact taken_more w hm hn hk h1 many (by omega)
  · refine (taken_one w hm hk h1 many).mono ?_
    rintro e W' ⟨rfl, hB⟩
    refine ⟨_, rfl, ?_, hB⟩
    unfold cablesW
    rw [if_neg h1]
    exact Lst.nil _ _

end Go.Proofs.YtlahfffgmfjpaaaGreatDoor

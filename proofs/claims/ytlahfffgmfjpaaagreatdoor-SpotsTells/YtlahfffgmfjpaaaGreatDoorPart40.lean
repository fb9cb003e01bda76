/-
  tidehallref12.Many. (Written by tools/gen/spots_ref_many.py.)
-/
import Derived.Test.YtlahfffgmfjpaaaGreatDoorPart37
import Derived.Test.YtlahfffgmfjpaaaGreatDoorPart32
import Derived.Test.YtlahfffgmfjpaaaGreatDoorPart34
import Derived.Test.YtlahfffgmfjpaaaGreatDoorPart30
import Derived.Test.YtlahfffgmfjpaaaGreatDoorSpotsRefI
namespace Go.Proofs.YtlahfffgmfjpaaaGreatDoor
open Go Go.RowKit Go.Shelf Go.Maps

attribute [local go_sem] Oper.semAt_some ext_const ixI0 ixI1 ixI2

theorem prod_step0 (d0 d1 d2 x y z : Int) : (x < d0 → prodN d0 d1 d2 x y z 1 = prodN d0 d1 d2 x y z 0 * d0) ∧ (¬ x < d0 → prodN d0 d1 d2 x y z 1 = prodN d0 d1 d2 x y z 0) := by
  constructor <;> intro h <;> simp [prodN, sideN, h]
theorem prod_step1 (d0 d1 d2 x y z : Int) : (y < d1 → prodN d0 d1 d2 x y z 2 = prodN d0 d1 d2 x y z 1 * d1) ∧ (¬ y < d1 → prodN d0 d1 d2 x y z 2 = prodN d0 d1 d2 x y z 1) := by
  constructor <;> intro h <;> simp [prodN, sideN, h]
theorem prod_step2 (d0 d1 d2 x y z : Int) : (z < d2 → prodN d0 d1 d2 x y z 3 = prodN d0 d1 d2 x y z 2 * d2) ∧ (¬ z < d2 → prodN d0 d1 d2 x y z 3 = prodN d0 d1 d2 x y z 2) := by
  constructor <;> intro h <;> simp [prodN, sideN, h]

set_option maxRecDepth 100000 in
set_option maxHeartbeats 16000000 in
theorem rmanyP_calls (d0 d1 d2 x y z : Int) (f g h t : Bool) (w : World) :
    Calls Tryz.prog 11 #[A3 d0 d1 d2, V7 x y z f g h t] w fun e W' => e = .returned (.tuple #[I (mnV d0 d1 d2 (x, y, z, f, g, h, t)), I (mnE d0 d1 d2 (x, y, z, f, g, h, t))]) ∧ Below w.heap.size w W' := by
  have mixed : Tryz.prog.follows .mixedOrders = true := by kernel_rfl
  have HMy : Hid (∀ w, Calls Tryz.prog 21 #[A3 d0 d1 d2, V7 x y z f g h t] w fun e W' => e = .returned (.bool (okDB d0 d1 d2 && okDB x y z)) ∧ Below w.heap.size w W') := fun w => smay_calls d0 d1 d2 x y z f g h t w
  have HR : Hid (mnV d0 d1 d2 (x, y, z, f, g, h, t) = (if okDB d0 d1 d2 && okDB x y z then manyT d0 d1 d2 (turnsT (x, y, z, f, g, h, t)) else 0) ∧ mnE d0 d1 d2 (x, y, z, f, g, h, t) = (if okDB d0 d1 d2 && okDB x y z then 0 else 8)) := ⟨rfl, rfl⟩
  generalize mnV d0 d1 d2 (x, y, z, f, g, h, t) = rv at *
  generalize mnE d0 d1 d2 (x, y, z, f, g, h, t) = re at *
  obtain ⟨W, hW, hB0, k0, k1⟩ := two_start w #[I d0, I d1, I d2] #[I x, I y, I z, .bool f, .bool g, .bool h, .bool t] 23 26
  have HW : Hid ((w.alloc (.cells #[I d0, I d1, I d2] 23)).alloc (.cells #[I x, I y, I z, .bool f, .bool g, .bool h, .bool t] 26) = W) := hW
  clear hW
  obtain ⟨a0, a1, a2, az⟩ := k0.three (Below.refl _ _)
  obtain ⟨s0, s1, s2, s3, s4, s5, s6⟩ := k1.seven
  have sz := k1.lt
  cases hok : (okDB d0 d1 d2 && okDB x y z)
  · rw [hok] at HMy HR
    clear hok
    go_enter Tryz.func11, Tryz.ntmps11
    go_wp2_with fail
    rw [HW.out]
    refine (HMy.out _).mono ?_
    rintro e w1 ⟨rfl, hB⟩
    have hT := then_below hB0 hB
    have HR8 : Hid (rv = 0 ∧ re = 8) := by
      have := HR.out
      simp at this
      exact this
    clear hB hB0 k0 k1 a0 a1 a2 az s0 s1 s2 s3 s4 s5 s6 sz HW HMy HR
    go_wp2
    go_ret2
    exact ⟨by rw [HR8.out.1, HR8.out.2]; rfl, hT⟩
  have hok2 := (Bool.and_eq_true _ _).mp hok
  have hd := (okDB_iff _ _ _).1 hok2.1
  have hu : mayT (x, y, z, f, g, h, t) := mayT_D.2 ((okDB_iff _ _ _).1 hok2.2)
  rw [hok] at HMy HR
  have HTu : Hid (∀ w, Calls Tryz.prog 30 #[V7 x y z f g h t] w fun e W' => ∃ v, e = .returned v ∧ Wl W' w.heap.size v (turnsT (x, y, z, f, g, h, t)) ∧ Below w.heap.size w W') := fun w => turns_calls w (mayT_D.1 hu)
  have HMx : Hid (∀ (b : Bx) (w : World), Calls Tryz.prog 32 #[A3 d0 d1 d2, B6 b] w fun e W' => e = .returned (.bool (mayBB d0 d1 d2 b)) ∧ Below w.heap.size w W') := fun b w => rmayb_calls d0 d1 d2 b w
  have hTs := turns_all hu
  have hT6 := turns_six hu
  have HRr : Hid (rv = manyN d0 d1 d2 (turnsT (x, y, z, f, g, h, t)) (turnsT (x, y, z, f, g, h, t)).length ∧ re = 0) := by
    have := HR.out
    simp at this
    rw [many_end]
    exact this
  clear hok hok2 hu HR
  generalize turnsT (x, y, z, f, g, h, t) = Ts at *
  have HSt : Hid (∀ (i : Nat) (x y z : Int) (f g h t : Bool), i < Ts.length → Ts.getD i default = (x, y, z, f, g, h, t) → ∀ T0 T1 T2, T0 = (f && decide (1 < x)) → T1 = (g && decide (1 < y)) → T2 = (h && decide (1 < z)) →
      seenN d0 d1 Ts (i + 1) = putQ (seenN d0 d1 Ts i) (⟨0, 0, 0, x, y, z⟩, T0, T1, T2) ∧
      manyN d0 d1 d2 Ts (i + 1) = manyN d0 d1 d2 Ts i + if mayBB d0 d1 d2 ⟨0, 0, 0, x, y, z⟩ && decide ((seenN d0 d1 Ts i).length < (seenN d0 d1 Ts (i + 1)).length) then prodN d0 d1 d2 x y z 3 else 0) := by
    rintro i x y z f g h t hi hu T0 T1 T2 rfl rfl rfl
    have hm : mayT (x, y, z, f, g, h, t) := hTs _ (by rw [← hu]; simp [hi])
    have hx : 1 ≤ x ∧ 1 ≤ y ∧ 1 ≤ z := by simp only [mayT] at hm; omega
    refine ⟨?_, ?_⟩
    · rw [seen_next hTs hi hu]
      have := plz d0 d1 x y z (f && decide (1 < x)) (g && decide (1 < y)) (h && decide (1 < z)) false
      rw [← this]
      rfl
    · rw [many_next hi hu, box_fits hd hx f g h t, prod_end]
  have HHl : Hid (∀ i : Nat, (seenN d0 d1 Ts i).length ≤ i) := fun i => seen_len d0 d1 Ts i
  have HMb0 : Hid (∀ i : Nat, i ≤ Ts.length → 0 ≤ manyN d0 d1 d2 Ts i ∧ manyN d0 d1 d2 Ts i ≤ 4096 * (i : Int)) := fun i hi => many_bd hd i hi
  have HPb : Hid (∀ (x y z : Int) (k : Nat), 0 ≤ prodN d0 d1 d2 x y z k ∧ prodN d0 d1 d2 x y z k ≤ 4096) := fun x y z k => prod_bd hd k
  have hTl : Ts.length ≤ 6 := hT6
  have hE0 : seenN d0 d1 Ts 0 = [] ∧ manyN d0 d1 d2 Ts 0 = 0 := ⟨seen_zero d0 d1 Ts, manyN_zero d0 d1 d2 Ts⟩
  clear hd hTs hT6
  generalize seenN d0 d1 Ts = SN at *
  generalize manyN d0 d1 d2 Ts = MN at *
  go_enter Tryz.func11, Tryz.ntmps11
  go_wp2_with fail
  rw [HW.out]
  refine (HMy.out _).mono ?_
  rintro e w0 ⟨rfl, hB⟩
  have hT := then_below hB0 hB
  replace k0 := k0.later hB
  replace k1 := k1.later hB
  clear hB hB0 a0 a1 a2 az s0 s1 s2 s3 s4 s5 s6 sz HW HMy W
  obtain ⟨s0, s1, s2, s3, s4, s5, s6⟩ := k1.seven
  have sz := k1.lt
  go_wp2_with fail
  refine (HTu.out _).mono ?_
  rintro e w1 ⟨v, rfl, hT0, hB⟩
  obtain ⟨to, tc, rfl, hvw⟩ := hT0.view
  clear hvw
  have HP1 : Hid (Blk w1 w.heap.size 23 #[I d0, I d1, I d2] ∧ Wl w1 w0.heap.size (.slice to Ts.length tc) Ts ∧ Below w.heap.size w w1) := ⟨k0.later hB, hT0, then_below hT hB⟩
  clear hT0 hB hT k0 k1 s0 s1 s2 s3 s4 s5 s6 sz HTu
  generalize w0.heap.size = nw at *
  clear w0
  go_wp2
  go_loopw [6, 7, 9] (fun u n i wr => ∃ (i' : Nat), i' ≤ Ts.length ∧ i = .int .i64 i' ∧ n = .int .i64 (MN i') ∧ Lp wr w1.heap.size u (SN i') ∧ Hid (Below w1.heap.size w1 wr)) (fun _ _ i _ => Ts.length - (RowKit.intOf i).toNat)
  case atStart => exact ⟨0, by omega, rfl, by rw [hE0.2], by rw [hE0.1]; exact Lp.nil _ _, Below.refl _ _⟩
  case round =>
    clear hE0
    obtain ⟨i, hi, rfl, rfl, hL, HR⟩ := hrel
    obtain ⟨so, sc, rfl, hL2⟩ := hL.form
    have HRh : Hid (Lp wr w1.heap.size (.slice so (SN i).length sc) (SN i)) := hL2
    clear hL hL2
    have hHi : (SN i).length ≤ 100 := Nat.le_trans (HHl.out i) (by omega)
    by_cases hlt2 : (i : Int) < (Ts.length : Int)
    · have hi2 : i < Ts.length := by omega
      obtain ⟨gT, x1, y1, z1, p1, q1, r1, t1, rfl, hx, hat⟩ := Wl.at (HP1.out.2.1.later HR.out) hi2
      obtain ⟨T0, hT0⟩ : ∃ T0, T0 = (p1 && decide (1 < x1)) := ⟨_, rfl⟩
      obtain ⟨T1, hT1⟩ : ∃ T1, T1 = (q1 && decide (1 < y1)) := ⟨_, rfl⟩
      obtain ⟨T2, hT2⟩ : ∃ T2, T2 = (r1 && decide (1 < z1)) := ⟨_, rfl⟩
      obtain ⟨hS1, hS0⟩ := HSt.out i x1 y1 z1 p1 q1 r1 t1 hi2 hx T0 T1 T2 hT0 hT1 hT2
      have HS : Hid (SN (i + 1) = putQ (SN i) (⟨0, 0, 0, x1, y1, z1⟩, T0, T1, T2)) := hS1
      have HMn : Hid (MN (i + 1) = MN i + if mayBB d0 d1 d2 ⟨0, 0, 0, x1, y1, z1⟩ && decide ((SN i).length < (SN (i + 1)).length) then prodN d0 d1 d2 x1 y1 z1 3 else 0) := hS0
      have HMbd : Hid ((0 ≤ MN (i + 1) ∧ MN (i + 1) ≤ 4096 * ((i + 1 : Nat) : Int))) := HMb0.out (i + 1) (by omega)
      have HTt : Hid (T0 = (p1 && decide (1 < x1)) ∧ T1 = (q1 && decide (1 < y1)) ∧ T2 = (r1 && decide (1 < z1))) := ⟨hT0, hT1, hT2⟩
      have HAt : Hid (At7 wr gT (i * 7) (x1, y1, z1, p1, q1, r1, t1)) := hat
      have HDm : Hid (Blk wr w.heap.size 23 #[I d0, I d1, I d2]) := HP1.out.1.later HR.out
      have HMb : Hid (∀ w, Calls Tryz.prog 32 #[A3 d0 d1 d2, B6 ⟨0, 0, 0, x1, y1, z1⟩] w fun e W' => e = .returned (.bool (mayBB d0 d1 d2 ⟨0, 0, 0, x1, y1, z1⟩)) ∧ Below w.heap.size w W') := fun w => HMx.out _ w
      have HPx : Hid (∀ k, 0 ≤ prodN d0 d1 d2 x1 y1 z1 k ∧ prodN d0 d1 d2 x1 y1 z1 k ≤ 4096) := HPb.out x1 y1 z1
      have HQ0 : Hid ((x1 < d0 → prodN d0 d1 d2 x1 y1 z1 1 = prodN d0 d1 d2 x1 y1 z1 0 * d0) ∧ (¬ x1 < d0 → prodN d0 d1 d2 x1 y1 z1 1 = prodN d0 d1 d2 x1 y1 z1 0)) := prod_step0 d0 d1 d2 x1 y1 z1
      have HQ1 : Hid ((y1 < d1 → prodN d0 d1 d2 x1 y1 z1 2 = prodN d0 d1 d2 x1 y1 z1 1 * d1) ∧ (¬ y1 < d1 → prodN d0 d1 d2 x1 y1 z1 2 = prodN d0 d1 d2 x1 y1 z1 1)) := prod_step1 d0 d1 d2 x1 y1 z1
      have HQ2 : Hid ((z1 < d2 → prodN d0 d1 d2 x1 y1 z1 3 = prodN d0 d1 d2 x1 y1 z1 2 * d2) ∧ (¬ z1 < d2 → prodN d0 d1 d2 x1 y1 z1 3 = prodN d0 d1 d2 x1 y1 z1 2)) := prod_step2 d0 d1 d2 x1 y1 z1
      have hP0 : prodN d0 d1 d2 x1 y1 z1 0 = 1 := rfl
      have sz := hat.lt
      obtain ⟨s0, s1, s2, s3, s4, s5, s6⟩ := hat.cells
      clear hS1 hS0 hT0 hT1 hT2 hx hat
      generalize mayBB d0 d1 d2 ⟨0, 0, 0, x1, y1, z1⟩ = ok at *
      generalize prodN d0 d1 d2 x1 y1 z1 = PN at *
      generalize hl0 : (SN i).length = sl at *
      clear hl0
      generalize hm0 : MN i = mi at *
      clear hm0
      have HK : Hid (Blk (wr.alloc (.cells (C9 ⟨0, 0, 0, x1, y1, z1⟩ false false false) 32)) wr.heap.size 32 (C9 ⟨0, 0, 0, x1, y1, z1⟩ (tN 0 0 T0) (tN 0 1 T1) (tN 0 2 T2)) ∧ Below wr.heap.size wr (wr.alloc (.cells (C9 ⟨0, 0, 0, x1, y1, z1⟩ false false false) 32))) := ⟨Blk.new _ _ _, (Below.refl _ wr).alloc (Nat.le_refl _) _⟩
      go_wp2
      go_loopw [11, 12] (fun u v w6 => ∃ (k : Nat), k ≤ 3 ∧ v = .int .i64 k ∧ u = .int .i64 (PN k) ∧ Hid (Blk w6 wr.heap.size 32 (C9 ⟨0, 0, 0, x1, y1, z1⟩ (tN k 0 T0) (tN k 1 T1) (tN k 2 T2)) ∧ Below wr.heap.size wr w6)) (fun _ v _ => 3 - (RowKit.intOf v).toNat)
      case atStart => exact ⟨0, by omega, rfl, by rw [hP0], HK.out⟩
      case round =>
        clear HK s0 s1 s2 s3 s4 s5 s6 sz hP0
        rename World => w6
        obtain ⟨k, hk, rfl, rfl, HK⟩ := hrel
        rcases show k = 0 ∨ k = 1 ∨ k = 2 ∨ k = 3 by omega with rfl | rfl | rfl | rfl
        · obtain ⟨s0, s1, s2, s3, s4, s5, s6⟩ := (HAt.out.later HK.out.2).cells
          have sz : gT < w6.heap.size := (HAt.out.later HK.out.2).lt
          have g0 := HK.out.1.frozen 6
          have c0 := HK.out.1.cell 6
          have zk := HK.out.1.lt
          simp at c0
          have hpb : (0 ≤ PN 1 ∧ PN 1 ≤ 4096) := HPx.out 1
          obtain ⟨hqy, hqn⟩ := HQ0.out
          generalize PN 0 = pk at *
          generalize hp1 : PN 1 = pk1 at *
          have HP1k : Hid (PN 1 = pk1) := hp1
          clear hp1
          cases hp : p1
          · obtain ⟨w7, hw7⟩ : ∃ w7, w7 = w6.setCell ⟨wr.heap.size, 6, none⟩ (.bool false) := ⟨_, rfl⟩
            have HK2 : Hid (Blk w7 wr.heap.size 32 (C9 ⟨0, 0, 0, x1, y1, z1⟩ (tN 1 0 T0) (tN 1 1 T1) (tN 1 2 T2)) ∧ Below wr.heap.size wr w7) := by
              have e : T0 = false := by rw [HTt.out.1, hp]; rfl
              have h9 := HK.out.1.set 6 (.bool false)
              rw [e] at h9 ⊢
              rw [hw7]
              exact ⟨h9, HK.out.2.setCell (p := ⟨wr.heap.size, 6, none⟩) (Nat.le_refl _) _⟩
            rw [hp] at s3
            have HW7 : Hid (w6.setCell ⟨wr.heap.size, 6, none⟩ (.bool false) = w7) := hw7.symm
            clear hp hw7
            obtain ⟨e0, e1, e2, e3, e4, e5, e6⟩ := (HAt.out.later HK2.out.2).ext
            have kd := HDm.out.later HK2.out.2
            have b0 := Ext.cell kd 0
            have b1 := Ext.cell kd 1
            have b2 := Ext.cell kd 2
            simp at b0 b1 b2
            clear kd HK
            go_wp2_with fail
            rw [HW7.out]
            clear HW7 s0 s1 s2 s3 s4 s5 s6 sz g0 c0 zk
            refine wp_region_look mixed (by kernel_rfl) ?_
            repeat (go_big_quiet_step (fail))
            refine wpQuiet_nil ?_
            intro X
            have HK3 : Hid (Blk X.wd wr.heap.size 32 (C9 ⟨0, 0, 0, x1, y1, z1⟩ (tN 1 0 T0) (tN 1 1 T1) (tN 1 2 T2)) ∧ Below wr.heap.size wr X.wd) := ⟨HK2.out.1.later X.le, then_below HK2.out.2 X.le⟩
            have hkd := HDm.out.later HK3.out.2
            clear HK2 e0 e1 e2 e3 e4 e5 e6 b0 b1 b2
            generalize X.wd = w9 at *
            clear X
            obtain ⟨a0, a1, a2, az⟩ := hkd.three (Below.refl _ _)
            clear hkd
            by_cases hq : x1 < d0
            · have hwr : wrap64 (pk * d0) = pk1 := by rw [← hqy hq]; exact wrap_in _ (by omega)
              clear hqy hqn
              go_wp2
              exact ⟨⟨1, by omega, by go_num, by rw [HP1k.out, hwr], HK3.out⟩, by simp [RowKit.intOf]⟩
            · have hq' : decide (x1 < d0) = false := by simpa using hq
              have hpe : pk1 = pk := hqn (by omega)
              have HPe : Hid (PN 1 = pk) := HP1k.out.trans hpe
              clear hqy hqn
              go_wp2
              exact ⟨⟨1, by omega, by go_num, by rw [HPe.out], HK3.out⟩, by simp [RowKit.intOf]⟩
          · obtain ⟨w7, hw7⟩ : ∃ w7, w7 = w6.setCell ⟨wr.heap.size, 6, none⟩ (.bool (decide (1 < x1))) := ⟨_, rfl⟩
            have HK2 : Hid (Blk w7 wr.heap.size 32 (C9 ⟨0, 0, 0, x1, y1, z1⟩ (tN 1 0 T0) (tN 1 1 T1) (tN 1 2 T2)) ∧ Below wr.heap.size wr w7) := by
              have e : T0 = decide (1 < x1) := by rw [HTt.out.1, hp]; rfl
              have h9 := HK.out.1.set 6 (.bool (decide (1 < x1)))
              rw [e] at h9 ⊢
              rw [hw7]
              exact ⟨h9, HK.out.2.setCell (p := ⟨wr.heap.size, 6, none⟩) (Nat.le_refl _) _⟩
            rw [hp] at s3
            have HW7 : Hid (w6.setCell ⟨wr.heap.size, 6, none⟩ (.bool (decide (1 < x1))) = w7) := hw7.symm
            clear hp hw7
            obtain ⟨e0, e1, e2, e3, e4, e5, e6⟩ := (HAt.out.later HK2.out.2).ext
            have kd := HDm.out.later HK2.out.2
            have b0 := Ext.cell kd 0
            have b1 := Ext.cell kd 1
            have b2 := Ext.cell kd 2
            simp at b0 b1 b2
            clear kd HK
            go_wp2_with fail
            rw [HW7.out]
            clear HW7 s0 s1 s2 s3 s4 s5 s6 sz g0 c0 zk
            refine wp_region_look mixed (by kernel_rfl) ?_
            repeat (go_big_quiet_step (fail))
            refine wpQuiet_nil ?_
            intro X
            have HK3 : Hid (Blk X.wd wr.heap.size 32 (C9 ⟨0, 0, 0, x1, y1, z1⟩ (tN 1 0 T0) (tN 1 1 T1) (tN 1 2 T2)) ∧ Below wr.heap.size wr X.wd) := ⟨HK2.out.1.later X.le, then_below HK2.out.2 X.le⟩
            have hkd := HDm.out.later HK3.out.2
            clear HK2 e0 e1 e2 e3 e4 e5 e6 b0 b1 b2
            generalize X.wd = w9 at *
            clear X
            obtain ⟨a0, a1, a2, az⟩ := hkd.three (Below.refl _ _)
            clear hkd
            by_cases hq : x1 < d0
            · have hwr : wrap64 (pk * d0) = pk1 := by rw [← hqy hq]; exact wrap_in _ (by omega)
              clear hqy hqn
              go_wp2
              exact ⟨⟨1, by omega, by go_num, by rw [HP1k.out, hwr], HK3.out⟩, by simp [RowKit.intOf]⟩
            · have hq' : decide (x1 < d0) = false := by simpa using hq
              have hpe : pk1 = pk := hqn (by omega)
              have HPe : Hid (PN 1 = pk) := HP1k.out.trans hpe
              clear hqy hqn
              go_wp2
              exact ⟨⟨1, by omega, by go_num, by rw [HPe.out], HK3.out⟩, by simp [RowKit.intOf]⟩
        · obtain ⟨s0, s1, s2, s3, s4, s5, s6⟩ := (HAt.out.later HK.out.2).cells
          have sz : gT < w6.heap.size := (HAt.out.later HK.out.2).lt
          have g1 := HK.out.1.frozen 7
          have c1 := HK.out.1.cell 7
          have zk := HK.out.1.lt
          simp at c1
          have hpb : (0 ≤ PN 2 ∧ PN 2 ≤ 4096) := HPx.out 2
          obtain ⟨hqy, hqn⟩ := HQ1.out
          generalize PN 1 = pk at *
          generalize hp1 : PN 2 = pk1 at *
          have HP1k : Hid (PN 2 = pk1) := hp1
          clear hp1
          cases hp : q1
          · obtain ⟨w7, hw7⟩ : ∃ w7, w7 = w6.setCell ⟨wr.heap.size, 7, none⟩ (.bool false) := ⟨_, rfl⟩
            have HK2 : Hid (Blk w7 wr.heap.size 32 (C9 ⟨0, 0, 0, x1, y1, z1⟩ (tN 2 0 T0) (tN 2 1 T1) (tN 2 2 T2)) ∧ Below wr.heap.size wr w7) := by
              have e : T1 = false := by rw [HTt.out.2.1, hp]; rfl
              have h9 := HK.out.1.set 7 (.bool false)
              rw [e] at h9 ⊢
              rw [hw7]
              exact ⟨h9, HK.out.2.setCell (p := ⟨wr.heap.size, 7, none⟩) (Nat.le_refl _) _⟩
            rw [hp] at s4
            have HW7 : Hid (w6.setCell ⟨wr.heap.size, 7, none⟩ (.bool false) = w7) := hw7.symm
            clear hp hw7
            obtain ⟨e0, e1, e2, e3, e4, e5, e6⟩ := (HAt.out.later HK2.out.2).ext
            have kd := HDm.out.later HK2.out.2
            have b0 := Ext.cell kd 0
            have b1 := Ext.cell kd 1
            have b2 := Ext.cell kd 2
            simp at b0 b1 b2
            clear kd HK
            go_wp2_with fail
            rw [HW7.out]
            clear HW7 s0 s1 s2 s3 s4 s5 s6 sz g1 c1 zk
            refine wp_region_look mixed (by kernel_rfl) ?_
            repeat (go_big_quiet_step (fail))
            refine wpQuiet_nil ?_
            intro X
            have HK3 : Hid (Blk X.wd wr.heap.size 32 (C9 ⟨0, 0, 0, x1, y1, z1⟩ (tN 2 0 T0) (tN 2 1 T1) (tN 2 2 T2)) ∧ Below wr.heap.size wr X.wd) := ⟨HK2.out.1.later X.le, then_below HK2.out.2 X.le⟩
            have hkd := HDm.out.later HK3.out.2
            clear HK2 e0 e1 e2 e3 e4 e5 e6 b0 b1 b2
            generalize X.wd = w9 at *
            clear X
            obtain ⟨a0, a1, a2, az⟩ := hkd.three (Below.refl _ _)
            clear hkd
            by_cases hq : y1 < d1
            · have hwr : wrap64 (pk * d1) = pk1 := by rw [← hqy hq]; exact wrap_in _ (by omega)
              clear hqy hqn
              go_wp2
              exact ⟨⟨2, by omega, by go_num, by rw [HP1k.out, hwr], HK3.out⟩, by simp [RowKit.intOf]⟩
            · have hq' : decide (y1 < d1) = false := by simpa using hq
              have hpe : pk1 = pk := hqn (by omega)
              have HPe : Hid (PN 2 = pk) := HP1k.out.trans hpe
              clear hqy hqn
              go_wp2
              exact ⟨⟨2, by omega, by go_num, by rw [HPe.out], HK3.out⟩, by simp [RowKit.intOf]⟩
          · obtain ⟨w7, hw7⟩ : ∃ w7, w7 = w6.setCell ⟨wr.heap.size, 7, none⟩ (.bool (decide (1 < y1))) := ⟨_, rfl⟩
            have HK2 : Hid (Blk w7 wr.heap.size 32 (C9 ⟨0, 0, 0, x1, y1, z1⟩ (tN 2 0 T0) (tN 2 1 T1) (tN 2 2 T2)) ∧ Below wr.heap.size wr w7) := by
              have e : T1 = decide (1 < y1) := by rw [HTt.out.2.1, hp]; rfl
              have h9 := HK.out.1.set 7 (.bool (decide (1 < y1)))
              rw [e] at h9 ⊢
              rw [hw7]
              exact ⟨h9, HK.out.2.setCell (p := ⟨wr.heap.size, 7, none⟩) (Nat.le_refl _) _⟩
            rw [hp] at s4
            have HW7 : Hid (w6.setCell ⟨wr.heap.size, 7, none⟩ (.bool (decide (1 < y1))) = w7) := hw7.symm
            clear hp hw7
            obtain ⟨e0, e1, e2, e3, e4, e5, e6⟩ := (HAt.out.later HK2.out.2).ext
            have kd := HDm.out.later HK2.out.2
            have b0 := Ext.cell kd 0
            have b1 := Ext.cell kd 1
            have b2 := Ext.cell kd 2
            simp at b0 b1 b2
            clear kd HK
            go_wp2_with fail
            rw [HW7.out]
            clear HW7 s0 s1 s2 s3 s4 s5 s6 sz g1 c1 zk
            refine wp_region_look mixed (by kernel_rfl) ?_
            repeat (go_big_quiet_step (fail))
            refine wpQuiet_nil ?_
            intro X
            have HK3 : Hid (Blk X.wd wr.heap.size 32 (C9 ⟨0, 0, 0, x1, y1, z1⟩ (tN 2 0 T0) (tN 2 1 T1) (tN 2 2 T2)) ∧ Below wr.heap.size wr X.wd) := ⟨HK2.out.1.later X.le, then_below HK2.out.2 X.le⟩
            have hkd := HDm.out.later HK3.out.2
            clear HK2 e0 e1 e2 e3 e4 e5 e6 b0 b1 b2
            generalize X.wd = w9 at *
            clear X
            obtain ⟨a0, a1, a2, az⟩ := hkd.three (Below.refl _ _)
            clear hkd
            by_cases hq : y1 < d1
            · have hwr : wrap64 (pk * d1) = pk1 := by rw [← hqy hq]; exact wrap_in _ (by omega)
              clear hqy hqn
              go_wp2
              exact ⟨⟨2, by omega, by go_num, by rw [HP1k.out, hwr], HK3.out⟩, by simp [RowKit.intOf]⟩
            · have hq' : decide (y1 < d1) = false := by simpa using hq
              have hpe : pk1 = pk := hqn (by omega)
              have HPe : Hid (PN 2 = pk) := HP1k.out.trans hpe
              clear hqy hqn
              go_wp2
              exact ⟨⟨2, by omega, by go_num, by rw [HPe.out], HK3.out⟩, by simp [RowKit.intOf]⟩
        · obtain ⟨s0, s1, s2, s3, s4, s5, s6⟩ := (HAt.out.later HK.out.2).cells
          have sz : gT < w6.heap.size := (HAt.out.later HK.out.2).lt
          have g2 := HK.out.1.frozen 8
          have c2 := HK.out.1.cell 8
          have zk := HK.out.1.lt
          simp at c2
          have hpb : (0 ≤ PN 3 ∧ PN 3 ≤ 4096) := HPx.out 3
          obtain ⟨hqy, hqn⟩ := HQ2.out
          generalize PN 2 = pk at *
          generalize hp1 : PN 3 = pk1 at *
          have HP1k : Hid (PN 3 = pk1) := hp1
          clear hp1
          cases hp : r1
          · obtain ⟨w7, hw7⟩ : ∃ w7, w7 = w6.setCell ⟨wr.heap.size, 8, none⟩ (.bool false) := ⟨_, rfl⟩
            have HK2 : Hid (Blk w7 wr.heap.size 32 (C9 ⟨0, 0, 0, x1, y1, z1⟩ (tN 3 0 T0) (tN 3 1 T1) (tN 3 2 T2)) ∧ Below wr.heap.size wr w7) := by
              have e : T2 = false := by rw [HTt.out.2.2, hp]; rfl
              have h9 := HK.out.1.set 8 (.bool false)
              rw [e] at h9 ⊢
              rw [hw7]
              exact ⟨h9, HK.out.2.setCell (p := ⟨wr.heap.size, 8, none⟩) (Nat.le_refl _) _⟩
            rw [hp] at s5
            have HW7 : Hid (w6.setCell ⟨wr.heap.size, 8, none⟩ (.bool false) = w7) := hw7.symm
            clear hp hw7
            obtain ⟨e0, e1, e2, e3, e4, e5, e6⟩ := (HAt.out.later HK2.out.2).ext
            have kd := HDm.out.later HK2.out.2
            have b0 := Ext.cell kd 0
            have b1 := Ext.cell kd 1
            have b2 := Ext.cell kd 2
            simp at b0 b1 b2
            clear kd HK
            go_wp2_with fail
            rw [HW7.out]
            clear HW7 s0 s1 s2 s3 s4 s5 s6 sz g2 c2 zk
            refine wp_region_look mixed (by kernel_rfl) ?_
            repeat (go_big_quiet_step (fail))
            refine wpQuiet_nil ?_
            intro X
            have HK3 : Hid (Blk X.wd wr.heap.size 32 (C9 ⟨0, 0, 0, x1, y1, z1⟩ (tN 3 0 T0) (tN 3 1 T1) (tN 3 2 T2)) ∧ Below wr.heap.size wr X.wd) := ⟨HK2.out.1.later X.le, then_below HK2.out.2 X.le⟩
            have hkd := HDm.out.later HK3.out.2
            clear HK2 e0 e1 e2 e3 e4 e5 e6 b0 b1 b2
            generalize X.wd = w9 at *
            clear X
            obtain ⟨a0, a1, a2, az⟩ := hkd.three (Below.refl _ _)
            clear hkd
            by_cases hq : z1 < d2
            · have hwr : wrap64 (pk * d2) = pk1 := by rw [← hqy hq]; exact wrap_in _ (by omega)
              clear hqy hqn
              go_wp2
              exact ⟨⟨3, by omega, by go_num, by rw [HP1k.out, hwr], HK3.out⟩, by simp [RowKit.intOf]⟩
            · have hq' : decide (z1 < d2) = false := by simpa using hq
              have hpe : pk1 = pk := hqn (by omega)
              have HPe : Hid (PN 3 = pk) := HP1k.out.trans hpe
              clear hqy hqn
              go_wp2
              exact ⟨⟨3, by omega, by go_num, by rw [HPe.out], HK3.out⟩, by simp [RowKit.intOf]⟩
          · obtain ⟨w7, hw7⟩ : ∃ w7, w7 = w6.setCell ⟨wr.heap.size, 8, none⟩ (.bool (decide (1 < z1))) := ⟨_, rfl⟩
            have HK2 : Hid (Blk w7 wr.heap.size 32 (C9 ⟨0, 0, 0, x1, y1, z1⟩ (tN 3 0 T0) (tN 3 1 T1) (tN 3 2 T2)) ∧ Below wr.heap.size wr w7) := by
              have e : T2 = decide (1 < z1) := by rw [HTt.out.2.2, hp]; rfl
              have h9 := HK.out.1.set 8 (.bool (decide (1 < z1)))
              rw [e] at h9 ⊢
              rw [hw7]
              exact ⟨h9, HK.out.2.setCell (p := ⟨wr.heap.size, 8, none⟩) (Nat.le_refl _) _⟩
            rw [hp] at s5
            have HW7 : Hid (w6.setCell ⟨wr.heap.size, 8, none⟩ (.bool (decide (1 < z1))) = w7) := hw7.symm
            clear hp hw7
            obtain ⟨e0, e1, e2, e3, e4, e5, e6⟩ := (HAt.out.later HK2.out.2).ext
            have kd := HDm.out.later HK2.out.2
            have b0 := Ext.cell kd 0
            have b1 := Ext.cell kd 1
            have b2 := Ext.cell kd 2
            simp at b0 b1 b2
            clear kd HK
            go_wp2_with fail
            rw [HW7.out]
            clear HW7 s0 s1 s2 s3 s4 s5 s6 sz g2 c2 zk
            refine wp_region_look mixed (by kernel_rfl) ?_
            repeat (go_big_quiet_step (fail))
            refine wpQuiet_nil ?_
            intro X
            have HK3 : Hid (Blk X.wd wr.heap.size 32 (C9 ⟨0, 0, 0, x1, y1, z1⟩ (tN 3 0 T0) (tN 3 1 T1) (tN 3 2 T2)) ∧ Below wr.heap.size wr X.wd) := ⟨HK2.out.1.later X.le, then_below HK2.out.2 X.le⟩
            have hkd := HDm.out.later HK3.out.2
            clear HK2 e0 e1 e2 e3 e4 e5 e6 b0 b1 b2
            generalize X.wd = w9 at *
            clear X
            obtain ⟨a0, a1, a2, az⟩ := hkd.three (Below.refl _ _)
            clear hkd
            by_cases hq : z1 < d2
            · have hwr : wrap64 (pk * d2) = pk1 := by rw [← hqy hq]; exact wrap_in _ (by omega)
              clear hqy hqn
              go_wp2
              exact ⟨⟨3, by omega, by go_num, by rw [HP1k.out, hwr], HK3.out⟩, by simp [RowKit.intOf]⟩
            · have hq' : decide (z1 < d2) = false := by simpa using hq
              have hpe : pk1 = pk := hqn (by omega)
              have HPe : Hid (PN 3 = pk) := HP1k.out.trans hpe
              clear hqy hqn
              go_wp2
              exact ⟨⟨3, by omega, by go_num, by rw [HPe.out], HK3.out⟩, by simp [RowKit.intOf]⟩
        · have HK3 : Hid (Blk w6 wr.heap.size 32 (C9 ⟨0, 0, 0, x1, y1, z1⟩ T0 T1 T2) ∧ Below wr.heap.size wr w6) := HK.out
          clear HK HQ0 HQ1 HQ2
          have HPu : Hid (Calls Tryz.prog 31 #[.slice so sl sc, P9 ⟨0, 0, 0, x1, y1, z1⟩ T0 T1 T2] w6 fun e W' => ∃ v, e = .returned v ∧ Lp W' w1.heap.size v (SN (i + 1)) ∧ Below w6.heap.size w6 W') := by
            rw [HS.out]
            exact pputs_calls w6 (HRh.out.later HK3.out.2) (Nat.le_trans HR.out.size HK3.out.2.size) (by have := HRh.out.len; omega)
          obtain ⟨⟨f0, f1, f2⟩, ⟨f3, f4, f5⟩, ⟨f6, f7, f8⟩, fz⟩ := HK3.out.1.nine (Below.refl _ _)
          have hsl : sl = (SN i).length := HRh.out.len
          have hp3 : 0 ≤ PN 3 ∧ PN 3 ≤ 4096 := HPx.out 3
          have HMn2 : Hid (MN (i + 1) = mi + if ok && decide (sl < (SN (i + 1)).length) then PN 3 else 0) := HMn
          clear HMn hsl
          go_wp2_with fail
          refine HPu.out.mono ?_
          rintro e w7 ⟨v8, rfl, hv8, hB⟩
          obtain ⟨mo, mc, rfl, hv9⟩ := hv8.form
          have HF : Hid (Lp w7 w1.heap.size (.slice mo (SN (i + 1)).length mc) (SN (i + 1)) ∧ Below w1.heap.size w1 w7) := ⟨hv9, then_below HR.out (then_below HK3.out.2 hB)⟩
          have HK4 : Hid (Blk w7 wr.heap.size 32 (C9 ⟨0, 0, 0, x1, y1, z1⟩ T0 T1 T2) ∧ Blk w7 w.heap.size 23 #[I d0, I d1, I d2]) := ⟨HK3.out.1.later hB, HDm.out.later (then_below HK3.out.2 hB)⟩
          clear HK3 hv8 hv9 hB f0 f1 f2 f3 f4 f5 f6 f7 f8 fz HPu w6
          obtain ⟨a0, a1, a2, az⟩ := HK4.out.2.three (Below.refl _ _)
          obtain ⟨⟨f0, f1, f2⟩, ⟨f3, f4, f5⟩, ⟨f6, f7, f8⟩, fz⟩ := HK4.out.1.nine (Below.refl _ _)
          generalize hml : (SN (i + 1)).length = ml at *
          clear hml
          go_wp2_with fail
          refine (HMb.out _).mono ?_
          rintro e w8 ⟨rfl, hB⟩
          have HF2 : Hid (Lp w8 w1.heap.size (.slice mo ml mc) (SN (i + 1)) ∧ Below w1.heap.size w1 w8) := ⟨HF.out.1.later hB, then_below HF.out.2 hB⟩
          clear HF HK4 hB a0 a1 a2 az f0 f1 f2 f3 f4 f5 f6 f7 f8 fz w7
          cases ok
          · have HMe : Hid (MN (i + 1) = mi) := by
              show _ = _
              simpa using HMn2.out
            clear HMn2
            go_wp2
            exact ⟨⟨i + 1, by omega, by go_num, by rw [HMe.out], HF2.out⟩, by simp [RowKit.intOf]; omega⟩
          · by_cases hq : (sl : Int) < (ml : Int)
            · have hwr : wrap64 (mi + PN 3) = MN (i + 1) := by
                have h1 : MN (i + 1) = mi + PN 3 := by
                  have := HMn2.out
                  rw [Bool.true_and, decide_eq_true (show sl < ml by omega)] at this
                  simpa using this
                have h2 := HMbd.out
                rw [h1] at h2 ⊢
                exact wrap_in _ (by omega)
              obtain ⟨mj, hmj⟩ : ∃ mj, MN (i + 1) = mj := ⟨_, rfl⟩
              rw [hmj] at hwr
              have HMj : Hid (MN (i + 1) = mj) := hmj
              clear hmj HMn2
              go_wp2
              exact ⟨⟨i + 1, by omega, by go_num, by rw [HMj.out, hwr], HF2.out⟩, by simp [RowKit.intOf]; omega⟩
            · have hq' : decide ((sl : Int) < (ml : Int)) = false := by simpa using hq
              have HMe : Hid (MN (i + 1) = mi) := by
                have := HMn2.out
                rw [Bool.true_and, decide_eq_false (show ¬ sl < ml by omega)] at this
                show _ = _
                simpa using this
              clear HMn2
              go_wp2
              exact ⟨⟨i + 1, by omega, by go_num, by rw [HMe.out], HF2.out⟩, by simp [RowKit.intOf]; omega⟩
    · obtain rfl : i = Ts.length := by omega
      have HF : Hid (Below w.heap.size w wr) := then_below HP1.out.2.2 HR.out
      clear HR HRh
      generalize (SN Ts.length).length = sl at *
      go_wp2
      go_ret2
      exact ⟨by rw [HRr.out.1, HRr.out.2]; rfl, HF.out⟩

end Go.Proofs.YtlahfffgmfjpaaaGreatDoor

/-
  The statement SpotsTells, walked. (Written by tools/gen/law_spots_tells.py.)
-/
namespace Go.Proofs.YtlahfffgmfjpaaaGreatDoor
open Go Go.RowKit Go.Shelf Go.Maps

attribute [local go_sem] Oper.semAt_some ext_const

theorem smany_calls {d0 d1 d2 x y z : Int} {f g h t : Bool} (w : World) (hO : OrdOk w) : Calls Tryz.prog 10 #[A3 d0 d1 d2, V7 x y z f g h t] w fun e W' => e = .returned (.tuple #[I (mnV d0 d1 d2 (x, y, z, f, g, h, t)), I (mnE d0 d1 d2 (x, y, z, f, g, h, t))]) ∧ Below w.heap.size w W' := by
  by_cases hh : mayD d0 d1 d2 ∧ mayT (x, y, z, f, g, h, t)
  · have h1 : (okDB d0 d1 d2 && okDB x y z) = true := by rw [(okDB_iff _ _ _).2 hh.1, (okDB_iff _ _ _).2 (mayT_D.1 hh.2)]; rfl
    have e1 : mnE d0 d1 d2 (x, y, z, f, g, h, t) = 0 := by unfold mnE; exact if_pos h1
    have e2 : mnV d0 d1 d2 (x, y, z, f, g, h, t) = ((placesL d0 d1 d2 (x, y, z, f, g, h, t)).length : Int) := by
      rw [places_len hh.1 hh.2]
      unfold mnV
      exact if_pos h1
    rw [e1, e2]
    exact smany_yes (u := (x, y, z, f, g, h, t)) w hO hh.1 hh.2
  · have h1 : ¬ (okDB d0 d1 d2 && okDB x y z) = true := fun h2 => by
      rw [Bool.and_eq_true, okDB_iff, okDB_iff] at h2
      exact hh ⟨h2.1, mayT_D.2 h2.2⟩
    have e1 : mnE d0 d1 d2 (x, y, z, f, g, h, t) = 8 := by unfold mnE; exact if_neg h1
    have e2 : mnV d0 d1 d2 (x, y, z, f, g, h, t) = 0 := by unfold mnV; exact if_neg h1
    rw [e1, e2]
    exact smany_no (u := (x, y, z, f, g, h, t)) w hh

set_option maxRecDepth 100000 in
set_option maxHeartbeats 16000000 in
theorem spotsTells_walk {d0 d1 d2 x y z : Int} {f g h t : Bool} {b : Bx} {p q r : Bool} {vm vl : Value} {mw lw : List Nat} (w : World) (hO : OrdOk w) (hM : Wds w vm mw) (hL : Wds w vl lw) :
    Calls Tryz.prog 3 #[A3 d0 d1 d2, V7 x y z f g h t, vm, vl, P9 b p q r] w fun e W' => e = .returned (.bool true) ∧ Below w.heap.size w W' := by
  have HS : Hid (∀ w1, Calls Tryz.prog 5 #[A3 d0 d1 d2] w1 fun e W' => e = .returned (.bool (smB d0 d1 d2)) ∧ Below w1.heap.size w1 W') := fun w1 => small12_calls d0 d1 d2 w1
  have HF : Hid (∀ w1, Below w.heap.size w w1 → Calls Tryz.prog 6 #[A3 d0 d1 d2, V7 x y z f g h t, vm, vl] w1 fun e W' => ∃ v, e = .returned (.tuple #[v, I (alE d0 d1 d2 (x, y, z, f, g, h, t) mw lw)]) ∧ Lp W' w1.heap.size v (alL d0 d1 d2 (x, y, z, f, g, h, t) mw lw) ∧ Below w1.heap.size w1 W') := fun w1 h1 => sall_calls (u := (x, y, z, f, g, h, t)) w1 (hO.later h1) (hM.later h1) (hL.later h1)
  have HG : Hid (∀ w1, Below w.heap.size w w1 → Calls Tryz.prog 7 #[A3 d0 d1 d2, V7 x y z f g h t, vm, vl] w1 fun e W' => ∃ v, e = .returned (.tuple #[v, I (alE d0 d1 d2 (x, y, z, f, g, h, t) mw lw)]) ∧ Lp W' w1.heap.size v (alL d0 d1 d2 (x, y, z, f, g, h, t) mw lw) ∧ Below w1.heap.size w1 W') := fun w1 h1 => rallP_calls w1 (hM.later h1) (hL.later h1) (fun hd hu w2 => reveryP_calls w2 hd hu)
  have HP : Hid (∀ w1, Below w.heap.size w w1 → Calls Tryz.prog 8 #[A3 d0 d1 d2, V7 x y z f g h t, P9 b p q r] w1 fun e W' => e = .returned (.tuple #[.bool (isB d0 d1 d2 (x, y, z, f, g, h, t) b p q r), I (isE d0 d1 d2 (x, y, z, f, g, h, t) b p q r)]) ∧ Below w1.heap.size w1 W') := fun w1 h1 => sis_calls (u := (x, y, z, f, g, h, t)) w1 (hO.later h1)
  have HQ : Hid (∀ w1, Below w.heap.size w w1 → Calls Tryz.prog 9 #[A3 d0 d1 d2, V7 x y z f g h t, P9 b p q r] w1 fun e W' => e = .returned (.tuple #[.bool (isB d0 d1 d2 (x, y, z, f, g, h, t) b p q r), I (isE d0 d1 d2 (x, y, z, f, g, h, t) b p q r)]) ∧ Below w1.heap.size w1 W') := fun w1 _ => ris_calls d0 d1 d2 x y z f g h t b p q r w1
  have HM : Hid (∀ w1, Below w.heap.size w w1 → Calls Tryz.prog 10 #[A3 d0 d1 d2, V7 x y z f g h t] w1 fun e W' => e = .returned (.tuple #[I (mnV d0 d1 d2 (x, y, z, f, g, h, t)), I (mnE d0 d1 d2 (x, y, z, f, g, h, t))]) ∧ Below w1.heap.size w1 W') := fun w1 h1 => smany_calls w1 (hO.later h1)
  have HN : Hid (∀ w1, Below w.heap.size w w1 → Calls Tryz.prog 11 #[A3 d0 d1 d2, V7 x y z f g h t] w1 fun e W' => e = .returned (.tuple #[I (mnV d0 d1 d2 (x, y, z, f, g, h, t)), I (mnE d0 d1 d2 (x, y, z, f, g, h, t))]) ∧ Below w1.heap.size w1 W') := fun w1 _ => rmanyP_calls d0 d1 d2 x y z f g h t w1
  have HSa : Hid (∀ {b1 b2 : Nat} {u v : Value} {xs : List Pl} (w : World), Lp w b1 u xs → Lp w b2 v xs → xs.length ≤ 1000000 → Calls Tryz.prog 12 #[u, v] w fun e W' => e = .returned (.bool true) ∧ Below w.heap.size w W') := fun {b1 b2 u v xs} w hX hY hl => by
    have := sameP_calls w hX hY hl
    rw [sameP_self xs] at this
    exact this
  have HLn : Hid ((alL d0 d1 d2 (x, y, z, f, g, h, t) mw lw).length ≤ 1000000) := Nat.le_trans al_len (by omega)
  obtain ⟨am, cm, rfl, _⟩ := hM.view
  obtain ⟨al, cl, rfl, _⟩ := hL.view
  clear hO hM hL
  generalize alL d0 d1 d2 (x, y, z, f, g, h, t) mw lw = xs at *
  generalize alE d0 d1 d2 (x, y, z, f, g, h, t) mw lw = ea at *
  generalize isB d0 d1 d2 (x, y, z, f, g, h, t) b p q r = bi at *
  generalize isE d0 d1 d2 (x, y, z, f, g, h, t) b p q r = ei at *
  generalize mnV d0 d1 d2 (x, y, z, f, g, h, t) = vn at *
  generalize mnE d0 d1 d2 (x, y, z, f, g, h, t) = en at *
  generalize mw.length = nm at *
  generalize lw.length = nl at *
  generalize smB d0 d1 d2 = sm at *
  obtain ⟨W, hW, hB0, k0, k1, k2⟩ := three_is w #[I d0, I d1, I d2] #[I x, I y, I z, .bool f, .bool g, .bool h, .bool t] (C9 b p q r) 23 26 32
  have HW : Hid (((w.alloc (.cells #[I d0, I d1, I d2] 23)).alloc (.cells #[I x, I y, I z, .bool f, .bool g, .bool h, .bool t] 26)).alloc (.cells (C9 b p q r) 32) = W) := hW
  clear hW
  go_enter Tryz.func3, Tryz.ntmps3
  by_cases q1 : (100 : Int) < (nm : Int)
  · go_wp2_with fail
    rw [HW.out]
    go_wp2
    go_ret
    exact ⟨rfl, hB0⟩
  have g1 : decide ((100 : Int) < (nm : Int)) = false := by simpa using q1
  by_cases q2 : (100 : Int) < (nl : Int)
  · go_wp2_with fail
    rw [HW.out]
    go_wp2
    go_ret
    exact ⟨rfl, hB0⟩
  have g2 : decide ((100 : Int) < (nl : Int)) = false := by simpa using q2
  obtain ⟨a0, a1, a2, az⟩ := k0.three (Below.refl _ _)
  go_wp2_with fail
  rw [HW.out]
  refine (HS.out _).mono ?_
  rintro e w2 ⟨rfl, hB⟩
  have HP0 : Hid (Blk w2 w.heap.size 23 #[I d0, I d1, I d2] ∧ Blk w2 (w.heap.size + 1) 26 #[I x, I y, I z, .bool f, .bool g, .bool h, .bool t] ∧ Blk w2 (w.heap.size + 1 + 1) 32 (C9 b p q r) ∧ Below w.heap.size w w2) := ⟨k0.later hB, k1.later hB, k2.later hB, then_below hB0 hB⟩
  clear hB a0 a1 a2 az HS g1 g2 q1 q2 k0 k1 k2 hB0 HW W
  cases sm
  · go_wp2
    go_ret
    exact ⟨rfl, HP0.out.2.2.2⟩
  obtain ⟨a0, a1, a2, az⟩ := HP0.out.1.three (Below.refl _ _)
  obtain ⟨s0, s1, s2, s3, s4, s5, s6⟩ := HP0.out.2.1.seven
  have sz := HP0.out.2.1.lt
  go_wp2_with fail
  refine (HF.out _ HP0.out.2.2.2).mono ?_
  rintro e w3 ⟨u, rfl, hL0, hB⟩
  obtain ⟨oF, cF, rfl, hL⟩ := hL0.form
  have HLF : Hid (Lp w3 w2.heap.size (.slice oF xs.length cF) xs) := hL
  replace HP0 : Hid (Blk w3 w.heap.size 23 #[I d0, I d1, I d2] ∧ Blk w3 (w.heap.size + 1) 26 #[I x, I y, I z, .bool f, .bool g, .bool h, .bool t] ∧ Blk w3 (w.heap.size + 1 + 1) 32 (C9 b p q r) ∧ Below w.heap.size w w3) := ⟨HP0.out.1.later hB, HP0.out.2.1.later hB, HP0.out.2.2.1.later hB, then_below HP0.out.2.2.2 hB⟩
  clear hB a0 a1 a2 az s0 s1 s2 s3 s4 s5 s6 sz HF hL hL0
  generalize w2.heap.size = nF at *
  clear w2
  obtain ⟨a0, a1, a2, az⟩ := HP0.out.1.three (Below.refl _ _)
  obtain ⟨s0, s1, s2, s3, s4, s5, s6⟩ := HP0.out.2.1.seven
  have sz := HP0.out.2.1.lt
  go_wp2_with fail
  refine (HG.out _ HP0.out.2.2.2).mono ?_
  rintro e w4 ⟨u, rfl, hL0, hB⟩
  obtain ⟨oG, cG, rfl, hL⟩ := hL0.form
  have HLG : Hid (Lp w4 w3.heap.size (.slice oG xs.length cG) xs) := hL
  replace HLF : Hid (Lp w4 nF (.slice oF xs.length cF) xs) := HLF.out.later hB
  replace HP0 : Hid (Blk w4 w.heap.size 23 #[I d0, I d1, I d2] ∧ Blk w4 (w.heap.size + 1) 26 #[I x, I y, I z, .bool f, .bool g, .bool h, .bool t] ∧ Blk w4 (w.heap.size + 1 + 1) 32 (C9 b p q r) ∧ Below w.heap.size w w4) := ⟨HP0.out.1.later hB, HP0.out.2.1.later hB, HP0.out.2.2.1.later hB, then_below HP0.out.2.2.2 hB⟩
  clear hB a0 a1 a2 az s0 s1 s2 s3 s4 s5 s6 sz HG hL hL0
  generalize w3.heap.size = nG at *
  clear w3
  obtain ⟨a0, a1, a2, az⟩ := HP0.out.1.three (Below.refl _ _)
  obtain ⟨s0, s1, s2, s3, s4, s5, s6⟩ := HP0.out.2.1.seven
  have sz := HP0.out.2.1.lt
  obtain ⟨⟨f0, f1, f2⟩, ⟨f3, f4, f5⟩, ⟨f6, f7, f8⟩, fz⟩ := HP0.out.2.2.1.nine (Below.refl _ _)
  go_wp2_with fail
  refine (HP.out _ HP0.out.2.2.2).mono ?_
  rintro e w5 ⟨rfl, hB⟩
  replace HLF : Hid (Lp w5 nF (.slice oF xs.length cF) xs) := HLF.out.later hB
  replace HLG : Hid (Lp w5 nG (.slice oG xs.length cG) xs) := HLG.out.later hB
  replace HP0 : Hid (Blk w5 w.heap.size 23 #[I d0, I d1, I d2] ∧ Blk w5 (w.heap.size + 1) 26 #[I x, I y, I z, .bool f, .bool g, .bool h, .bool t] ∧ Blk w5 (w.heap.size + 1 + 1) 32 (C9 b p q r) ∧ Below w.heap.size w w5) := ⟨HP0.out.1.later hB, HP0.out.2.1.later hB, HP0.out.2.2.1.later hB, then_below HP0.out.2.2.2 hB⟩
  clear hB a0 a1 a2 az s0 s1 s2 s3 s4 s5 s6 sz f0 f1 f2 f3 f4 f5 f6 f7 f8 fz HP w4
  obtain ⟨a0, a1, a2, az⟩ := HP0.out.1.three (Below.refl _ _)
  obtain ⟨s0, s1, s2, s3, s4, s5, s6⟩ := HP0.out.2.1.seven
  have sz := HP0.out.2.1.lt
  obtain ⟨⟨f0, f1, f2⟩, ⟨f3, f4, f5⟩, ⟨f6, f7, f8⟩, fz⟩ := HP0.out.2.2.1.nine (Below.refl _ _)
  go_wp2_with fail
  refine (HQ.out _ HP0.out.2.2.2).mono ?_
  rintro e w6 ⟨rfl, hB⟩
  replace HLF : Hid (Lp w6 nF (.slice oF xs.length cF) xs) := HLF.out.later hB
  replace HLG : Hid (Lp w6 nG (.slice oG xs.length cG) xs) := HLG.out.later hB
  replace HP0 : Hid (Blk w6 w.heap.size 23 #[I d0, I d1, I d2] ∧ Blk w6 (w.heap.size + 1) 26 #[I x, I y, I z, .bool f, .bool g, .bool h, .bool t] ∧ Blk w6 (w.heap.size + 1 + 1) 32 (C9 b p q r) ∧ Below w.heap.size w w6) := ⟨HP0.out.1.later hB, HP0.out.2.1.later hB, HP0.out.2.2.1.later hB, then_below HP0.out.2.2.2 hB⟩
  clear hB a0 a1 a2 az s0 s1 s2 s3 s4 s5 s6 sz f0 f1 f2 f3 f4 f5 f6 f7 f8 fz HQ w5
  obtain ⟨a0, a1, a2, az⟩ := HP0.out.1.three (Below.refl _ _)
  obtain ⟨s0, s1, s2, s3, s4, s5, s6⟩ := HP0.out.2.1.seven
  have sz := HP0.out.2.1.lt
  go_wp2_with fail
  refine (HM.out _ HP0.out.2.2.2).mono ?_
  rintro e w7 ⟨rfl, hB⟩
  replace HLF : Hid (Lp w7 nF (.slice oF xs.length cF) xs) := HLF.out.later hB
  replace HLG : Hid (Lp w7 nG (.slice oG xs.length cG) xs) := HLG.out.later hB
  replace HP0 : Hid (Blk w7 w.heap.size 23 #[I d0, I d1, I d2] ∧ Blk w7 (w.heap.size + 1) 26 #[I x, I y, I z, .bool f, .bool g, .bool h, .bool t] ∧ Blk w7 (w.heap.size + 1 + 1) 32 (C9 b p q r) ∧ Below w.heap.size w w7) := ⟨HP0.out.1.later hB, HP0.out.2.1.later hB, HP0.out.2.2.1.later hB, then_below HP0.out.2.2.2 hB⟩
  clear hB a0 a1 a2 az s0 s1 s2 s3 s4 s5 s6 sz HM w6
  obtain ⟨a0, a1, a2, az⟩ := HP0.out.1.three (Below.refl _ _)
  obtain ⟨s0, s1, s2, s3, s4, s5, s6⟩ := HP0.out.2.1.seven
  have sz := HP0.out.2.1.lt
  go_wp2_with fail
  refine (HN.out _ HP0.out.2.2.2).mono ?_
  rintro e w8 ⟨rfl, hB⟩
  replace HLF : Hid (Lp w8 nF (.slice oF xs.length cF) xs) := HLF.out.later hB
  replace HLG : Hid (Lp w8 nG (.slice oG xs.length cG) xs) := HLG.out.later hB
  replace HP0 : Hid (Blk w8 w.heap.size 23 #[I d0, I d1, I d2] ∧ Blk w8 (w.heap.size + 1) 26 #[I x, I y, I z, .bool f, .bool g, .bool h, .bool t] ∧ Blk w8 (w.heap.size + 1 + 1) 32 (C9 b p q r) ∧ Below w.heap.size w w8) := ⟨HP0.out.1.later hB, HP0.out.2.1.later hB, HP0.out.2.2.1.later hB, then_below HP0.out.2.2.2 hB⟩
  clear hB a0 a1 a2 az s0 s1 s2 s3 s4 s5 s6 sz HN w7
  have hbb : (bi == bi) = true := by simp
  have hea : (ea == ea) = true := by simp
  have hei : (ei == ei) = true := by simp
  have hvn : (vn == vn) = true := by simp
  have hen : (en == en) = true := by simp
  go_wp2_with fail
  refine (HSa.out _ HLF.out HLG.out HLn.out).mono ?_
  rintro e w9 ⟨rfl, hB⟩
  have HE : Hid (Below w.heap.size w w9) := then_below HP0.out.2.2.2 hB
  clear hB HP0 HLF HLG HLn HSa w8
  go_wp2
  go_ret
  exact ⟨rfl, HE.out⟩

theorem spotsTells_run (d0 d1 d2 x y z : Int) (f g h t : Bool) (b : Bx) (p q r : Bool) {vm vl : Value} {mw lw : List Nat} (w : World) (hO : OrdOk w) (hM : ArgW w vm mw) (hL : ArgW w vl lw) :
    Calls Tryz.prog 3 #[A3 d0 d1 d2, V7 x y z f g h t, vm, vl, P9 b p q r] w fun e W' => e = .returned (.bool true) ∧ Below w.heap.size w W' := spotsTells_walk w hO hM.1 hL.1

end Go.Proofs.YtlahfffgmfjpaaaGreatDoor

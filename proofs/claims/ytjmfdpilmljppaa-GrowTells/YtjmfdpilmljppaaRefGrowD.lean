/-
  tidehallref13.step, once, Grown.
-/
import Derived.Test.YtjmfdpilmljppaaPart20
import Derived.Test.YtjmfdpilmljppaaPart12
namespace Go.Proofs.Ytjmfdpilmljppaa
open Go Go.RowKit Go.Shelf Go.Maps

attribute [local go_sem] Oper.semAt_some ext_const
attribute [local go_sem high] eq_box

/-- What the document's step comes to. -/
def stepR (d0 d1 d2 : Int) (ws : List Nat) (b c : Bx) : Bx := if mayBB d0 d1 d2 c && clearX d0 d1 d2 ws c then c else b

theorem Blk.other6 {W : World} {B B' : Nat} {t : TypeId} {vs : Array Value} (h : Blk W B t vs) (hne : B ≠ B') (a b c d e f : Value) : Blk ((((((W.setCell ⟨B', 0, none⟩ a).setCell ⟨B', 1, none⟩ b).setCell ⟨B', 2, none⟩ c).setCell ⟨B', 3, none⟩ d).setCell ⟨B', 4, none⟩ e).setCell ⟨B', 5, none⟩ f) B t vs :=
  (((((h.other 0 a hne).other 1 b hne).other 2 c hne).other 3 d hne).other 4 e hne).other 5 f hne

set_option maxRecDepth 100000 in
set_option maxHeartbeats 8000000 in
theorem rstep0_calls {d0 d1 d2 : Int} {b : Bx} {v : Value} {ws : List Nat} {bk : Int} (w : World) (hd : mayD d0 d1 d2) (hb : mayB d0 d1 d2 b) (hbk : 0 ≤ bk ∧ bk ≤ 1) (hv : Wds w v ws) :
    Calls Try.prog 67 #[A3 d0 d1 d2, B6 b, v, I 0, I bk] w fun e W' => e = .returned (B6 (stepR d0 d1 d2 ws b (canonB d0 d1 d2 ⟨(b.x - bk) % d0, b.y, b.z, b.a + 1, b.b, b.c⟩))) ∧ Below w.heap.size w W' := by
  have mixed : Try.prog.follows .mixedOrders = true := by kernel_rfl
  obtain ⟨s0, s1, s2⟩ := sizes_bd hd hb
  obtain ⟨⟨_, p0⟩, ⟨_, p1⟩, ⟨_, p2⟩⟩ := hb
  obtain ⟨q0, q1, q2⟩ := hd
  unfold okD at q0 q1 q2
  have HR : Hid (∀ w, Calls Try.prog 87 #[I (b.x - bk), I d0] w fun e W' => e = .returned (I ((b.x - bk) % d0)) ∧ W' = w) := fun w => rround_calls w q0.1 q0.2
  generalize hx : (b.x - bk) % d0 = bs at *
  have hbs : 0 ≤ bs ∧ bs < d0 := by
    rw [← hx]
    exact ⟨Int.emod_nonneg _ (by omega), Int.emod_lt_of_pos _ (by omega)⟩
  clear hx
  obtain ⟨c1, hc1⟩ : ∃ c1 : Bx, c1 = ⟨bs, b.y, b.z, b.a + 1, b.b, b.c⟩ := ⟨_, rfl⟩
  rw [← hc1]
  have HC1 : Hid (c1 = ⟨bs, b.y, b.z, b.a + 1, b.b, b.c⟩) := hc1
  have HTo : Hid (∀ w, Calls Try.prog 41 #[A3 d0 d1 d2, B6 c1] w fun e W' => e = .returned (B6 (canonB d0 d1 d2 c1)) ∧ Below w.heap.size w W') := fun w => rtold_calls d0 d1 d2 c1 w
  have HMy : Hid (∀ w, Calls Try.prog 39 #[A3 d0 d1 d2, B6 (canonB d0 d1 d2 c1)] w fun e W' => e = .returned (.bool (mayBB d0 d1 d2 (canonB d0 d1 d2 c1))) ∧ Below w.heap.size w W') := fun w => rmayb_calls d0 d1 d2 (canonB d0 d1 d2 c1) w
  have HCl : Hid (∀ w1, mayBB d0 d1 d2 (canonB d0 d1 d2 c1) = true → Below w.heap.size w w1 → Calls Try.prog 40 #[A3 d0 d1 d2, B6 (canonB d0 d1 d2 c1), v] w1 fun e W' => e = .returned (.bool (clearX d0 d1 d2 ws (canonB d0 d1 d2 c1))) ∧ Below w1.heap.size w1 W') := fun w1 hm h1 => rgclear_calls w1 ⟨q0, q1, q2⟩ ((mayBB_iff _ _ _ _).1 hm) (hv.later h1)
  have HSR : Hid (stepR d0 d1 d2 ws b (canonB d0 d1 d2 c1) = if mayBB d0 d1 d2 (canonB d0 d1 d2 c1) && clearX d0 d1 d2 ws (canonB d0 d1 d2 c1) then canonB d0 d1 d2 c1 else b) := rfl
  obtain ⟨ao, cap, rfl, _⟩ := hv.view
  clear hv hc1
  generalize stepR d0 d1 d2 ws b (canonB d0 d1 d2 c1) = R at *
  generalize mayBB d0 d1 d2 (canonB d0 d1 d2 c1) = mb at *
  generalize clearX d0 d1 d2 ws (canonB d0 d1 d2 c1) = cl at *
  generalize canonB d0 d1 d2 c1 = cc at *
  generalize ws.length = n at *
  obtain ⟨W, hW, hs, hB0, b0, b1, b2⟩ := three_start w #[I d0, I d1, I d2] (C6 b) #[I 0, I 0, I 0, I 0, I 0, I 0] 26 32 32
  have HW : Hid (((w.alloc (.cells #[I d0, I d1, I d2] 26)).alloc (.cells (C6 b) 32)).alloc (.cells #[I 0, I 0, I 0, I 0, I 0, I 0] 32) = W) := hW
  clear hW
  go_enter Try.func67, Try.ntmps67
  go_wp2_with fail
  obtain ⟨W4, hW4⟩ : ∃ W4, W4 = W.alloc (.cells #[I b.x, I b.y, I b.z, I (b.a + 1), I b.b, I b.c] 32) := ⟨_, rfl⟩
  have hB4 : Below W.heap.size W W4 := by rw [hW4]; exact (Below.refl _ W).alloc (Nat.le_refl _) _
  have kc : Blk W4 (w.heap.size + 1 + 1 + 1) 32 #[I b.x, I b.y, I b.z, I (b.a + 1), I b.b, I b.c] := by
    rw [hW4, show w.heap.size + 1 + 1 + 1 = W.heap.size from hs.symm]; exact Blk.new _ _ _
  have HK : Hid (Blk W4 (w.heap.size + 1 + 1 + 1) 32 #[I b.x, I b.y, I b.z, I (b.a + 1), I b.b, I b.c] ∧ Blk W4 w.heap.size 26 #[I d0, I d1, I d2] ∧ Blk W4 (w.heap.size + 1) 32 (C6 b) ∧ Blk W4 (w.heap.size + 1 + 1) 32 #[I 0, I 0, I 0, I 0, I 0, I 0] ∧ Below w.heap.size w W4) := ⟨kc, b0.later hB4, b1.later hB4, b2.later hB4, then_below hB0 hB4⟩
  have e0 : ∀ x : Ext W4, x.wd.cell? ⟨w.heap.size, 0, none⟩ = some (I d0) := fun x => (HK.out.2.1.later x.le).cell 0
  have e1 : ∀ x : Ext W4, x.wd.cell? ⟨w.heap.size + 1 + 1 + 1, 0, none⟩ = some (I b.x) := fun x => (HK.out.1.later x.le).cell 0
  have HW4 : Hid (W.alloc (.cells #[I b.x, I b.y, I b.z, I (b.a + 1), I b.b, I b.c] 32) = W4) := hW4.symm
  clear hW4 kc b0 b1 b2 hB4 hB0 hs
  rw [HW.out, HW4.out]
  refine (wpIn_wide (n := 0)).1 (wpIn_region_tail2 13 (loose_wide _) mixed (by kernel_rfl) ?_)
  simp only [List.take_succ_cons, List.take_zero, List.drop_succ_cons, List.drop_zero]
  repeat (go_big_quiet_step (exact calls_ext_same (HR.out _)))
  refine wpQuiet_nil ?_
  intro X
  have hX := X.le
  have kc := HK.out.1.later hX
  have k0 := HK.out.2.1.later hX
  have k1 := HK.out.2.2.1.later hX
  have k2 := HK.out.2.2.2.1.later hX
  have hB := then_below HK.out.2.2.2.2 hX
  clear e0 e1 hX HK HW HW4
  generalize X.wd = w1 at *
  clear X W W4
  have f1 := kc.frozen 0
  have g1 := kc.cell 0
  have gz := kc.lt
  simp at g1
  gi_wp2
  have kc2 : Blk (w1.setCell ⟨w.heap.size + 1 + 1 + 1, 0, none⟩ (I bs)) (w.heap.size + 1 + 1 + 1) 32 (C6 c1) := by
    have := kc.set 0 (I bs)
    rw [HC1.out]
    exact this
  have HK : Hid (Blk (w1.setCell ⟨w.heap.size + 1 + 1 + 1, 0, none⟩ (I bs)) w.heap.size 26 #[I d0, I d1, I d2] ∧ Blk (w1.setCell ⟨w.heap.size + 1 + 1 + 1, 0, none⟩ (I bs)) (w.heap.size + 1) 32 (C6 b) ∧ Blk (w1.setCell ⟨w.heap.size + 1 + 1 + 1, 0, none⟩ (I bs)) (w.heap.size + 1 + 1) 32 #[I 0, I 0, I 0, I 0, I 0, I 0] ∧ Below w.heap.size w (w1.setCell ⟨w.heap.size + 1 + 1 + 1, 0, none⟩ (I bs))) :=
    ⟨k0.other 0 _ (by omega), k1.other 0 _ (by omega), k2.other 0 _ (by omega), hB.setCell (p := ⟨w.heap.size + 1 + 1 + 1, 0, none⟩) (by show w.heap.size ≤ w.heap.size + 1 + 1 + 1; omega) _⟩
  clear kc k0 k1 k2 hB f1 g1 gz
  generalize w1.setCell ⟨w.heap.size + 1 + 1 + 1, 0, none⟩ (I bs) = w2 at *
  obtain ⟨e0, e1, e2, ez⟩ := HK.out.1.three (Below.refl _ _)
  obtain ⟨g0, g1, g2, g3, g4, g5, gz⟩ := kc2.sixX (Below.refl _ _)
  go_wp2_with fail
  refine (HTo.out _).mono ?_
  rintro e w3 ⟨rfl, hB⟩
  have kc := kc2.later hB
  replace HK : Hid (Blk w3 w.heap.size 26 #[I d0, I d1, I d2] ∧ Blk w3 (w.heap.size + 1) 32 (C6 b) ∧ Blk w3 (w.heap.size + 1 + 1) 32 #[I 0, I 0, I 0, I 0, I 0, I 0] ∧ Below w.heap.size w w3) := ⟨HK.out.1.later hB, HK.out.2.1.later hB, HK.out.2.2.1.later hB, then_below HK.out.2.2.2 hB⟩
  clear kc2 hB e0 e1 e2 ez g0 g1 g2 g3 g4 g5 gz HTo HR
  obtain ⟨⟨c0, c1', c2, c3, c4, c5⟩, f0, f1, f2, f3, f4, f5⟩ := kc.row6
  have gz := kc.lt
  obtain ⟨e0, e1, e2, ez⟩ := HK.out.1.three (Below.refl _ _)
  have HKc : Hid (Blk w3 (w.heap.size + 1 + 1 + 1) 32 (C6 c1)) := kc
  clear kc
  go_wp2_with fail
  refine (HMy.out _).mono ?_
  rintro e w4 ⟨rfl, hB⟩
  have kc := (HKc.out.set6 (I cc.x) (I cc.y) (I cc.z) (I cc.a) (I cc.b) (I cc.c)).later hB
  have k0 := (HK.out.1.other6 (B' := w.heap.size + 1 + 1 + 1) (by omega) (I cc.x) (I cc.y) (I cc.z) (I cc.a) (I cc.b) (I cc.c)).later hB
  have k1 := (HK.out.2.1.other6 (B' := w.heap.size + 1 + 1 + 1) (by omega) (I cc.x) (I cc.y) (I cc.z) (I cc.a) (I cc.b) (I cc.c)).later hB
  have k2 := (HK.out.2.2.1.other6 (B' := w.heap.size + 1 + 1 + 1) (by omega) (I cc.x) (I cc.y) (I cc.z) (I cc.a) (I cc.b) (I cc.c)).later hB
  have hBB := then_below (below_set6 HK.out.2.2.2 (show w.heap.size ≤ w.heap.size + 1 + 1 + 1 by omega) (I cc.x) (I cc.y) (I cc.z) (I cc.a) (I cc.b) (I cc.c)) hB
  clear hB HKc HK e0 e1 e2 ez c0 c1' c2 c3 c4 c5 f0 f1 f2 f3 f4 f5 gz HMy
  have HKc : Hid (Blk w4 (w.heap.size + 1 + 1 + 1) 32 (C6 cc)) := kc
  have HK : Hid (Blk w4 w.heap.size 26 #[I d0, I d1, I d2] ∧ Blk w4 (w.heap.size + 1) 32 (C6 b) ∧ Blk w4 (w.heap.size + 1 + 1) 32 #[I 0, I 0, I 0, I 0, I 0, I 0] ∧ Below w.heap.size w w4) := ⟨k0, k1, k2, hBB⟩
  clear kc k0 k1 k2 hBB w3 w2
  cases mb
  · have HRb : Hid (R = b) := by
      show _ = _
      simpa using HSR.out
    clear HSR HCl
    obtain ⟨e0, e1, e2, ez⟩ := HK.out.1.three (Below.refl _ _)
    obtain ⟨g0, g1, g2, g3, g4, g5, gz⟩ := HK.out.2.1.sixX (Below.refl _ _)
    obtain ⟨_, f0, f1, f2, f3, f4, f5⟩ := HK.out.2.2.1.row6
    have yz := HK.out.2.2.1.lt
    go_wp2
    obtain ⟨⟨m0, m1, m2, m3, m4, m5⟩, _⟩ := (HK.out.2.2.1.set6 (I b.x) (I b.y) (I b.z) (I b.a) (I b.b) (I b.c)).row6
    have hX := below_set6 HK.out.2.2.2 (show w.heap.size ≤ w.heap.size + 1 + 1 by omega) (I b.x) (I b.y) (I b.z) (I b.a) (I b.b) (I b.c)
    exact bodyPost_ret (v := B6 b) (by simp [results, Try.f67, go_sem, m0, m1, m2, m3, m4, m5]) rfl ⟨by rw [HRb.out], hX⟩
  · have HClx : Hid (∀ w1, Below w.heap.size w w1 → Calls Try.prog 40 #[A3 d0 d1 d2, B6 cc, .slice ao n cap] w1 fun e W' => e = .returned (.bool cl) ∧ Below w1.heap.size w1 W') := fun w1 h1 => HCl.out w1 (by trivial) h1
    obtain ⟨e0, e1, e2, ez⟩ := HK.out.1.three (Below.refl _ _)
    obtain ⟨g0, g1, g2, g3, g4, g5, gz⟩ := HKc.out.sixX (Below.refl _ _)
    clear HCl
    go_wp2_with fail
    refine (HClx.out _ HK.out.2.2.2).mono ?_
    rintro e w5 ⟨rfl, hB⟩
    replace HKc : Hid (Blk w5 (w.heap.size + 1 + 1 + 1) 32 (C6 cc)) := HKc.out.later hB
    replace HK : Hid (Blk w5 w.heap.size 26 #[I d0, I d1, I d2] ∧ Blk w5 (w.heap.size + 1) 32 (C6 b) ∧ Blk w5 (w.heap.size + 1 + 1) 32 #[I 0, I 0, I 0, I 0, I 0, I 0] ∧ Below w.heap.size w w5) := ⟨HK.out.1.later hB, HK.out.2.1.later hB, HK.out.2.2.1.later hB, then_below HK.out.2.2.2 hB⟩
    clear hB HClx e0 e1 e2 ez g0 g1 g2 g3 g4 g5 gz
    cases cl
    · have HRb : Hid (R = b) := by
        show _ = _
        simpa using HSR.out
      clear HSR
      obtain ⟨e0, e1, e2, ez⟩ := HK.out.1.three (Below.refl _ _)
      obtain ⟨g0, g1, g2, g3, g4, g5, gz⟩ := HK.out.2.1.sixX (Below.refl _ _)
      obtain ⟨_, f0, f1, f2, f3, f4, f5⟩ := HK.out.2.2.1.row6
      have yz := HK.out.2.2.1.lt
      go_wp2
      obtain ⟨⟨m0, m1, m2, m3, m4, m5⟩, _⟩ := (HK.out.2.2.1.set6 (I b.x) (I b.y) (I b.z) (I b.a) (I b.b) (I b.c)).row6
      have hX := below_set6 HK.out.2.2.2 (show w.heap.size ≤ w.heap.size + 1 + 1 by omega) (I b.x) (I b.y) (I b.z) (I b.a) (I b.b) (I b.c)
      exact bodyPost_ret (v := B6 b) (by simp [results, Try.f67, go_sem, m0, m1, m2, m3, m4, m5]) rfl ⟨by rw [HRb.out], hX⟩
    · have HRb : Hid (R = cc) := by
        show _ = _
        simpa using HSR.out
      clear HSR
      obtain ⟨g0, g1, g2, g3, g4, g5, gz⟩ := HKc.out.sixX (Below.refl _ _)
      obtain ⟨_, f0, f1, f2, f3, f4, f5⟩ := HK.out.2.2.1.row6
      have yz := HK.out.2.2.1.lt
      go_wp2
      obtain ⟨⟨m0, m1, m2, m3, m4, m5⟩, _⟩ := (HK.out.2.2.1.set6 (I cc.x) (I cc.y) (I cc.z) (I cc.a) (I cc.b) (I cc.c)).row6
      have hX := below_set6 HK.out.2.2.2 (show w.heap.size ≤ w.heap.size + 1 + 1 by omega) (I cc.x) (I cc.y) (I cc.z) (I cc.a) (I cc.b) (I cc.c)
      exact bodyPost_ret (v := B6 cc) (by simp [results, Try.f67, go_sem, m0, m1, m2, m3, m4, m5]) rfl ⟨by rw [HRb.out], hX⟩

set_option maxRecDepth 100000 in
set_option maxHeartbeats 8000000 in
theorem rstep1_calls {d0 d1 d2 : Int} {b : Bx} {v : Value} {ws : List Nat} {bk : Int} (w : World) (hd : mayD d0 d1 d2) (hb : mayB d0 d1 d2 b) (hbk : 0 ≤ bk ∧ bk ≤ 1) (hv : Wds w v ws) :
    Calls Try.prog 67 #[A3 d0 d1 d2, B6 b, v, I 1, I bk] w fun e W' => e = .returned (B6 (stepR d0 d1 d2 ws b (canonB d0 d1 d2 ⟨b.x, (b.y - bk) % d1, b.z, b.a, b.b + 1, b.c⟩))) ∧ Below w.heap.size w W' := by
  have mixed : Try.prog.follows .mixedOrders = true := by kernel_rfl
  obtain ⟨s0, s1, s2⟩ := sizes_bd hd hb
  obtain ⟨⟨_, p0⟩, ⟨_, p1⟩, ⟨_, p2⟩⟩ := hb
  obtain ⟨q0, q1, q2⟩ := hd
  unfold okD at q0 q1 q2
  have HR : Hid (∀ w, Calls Try.prog 87 #[I (b.y - bk), I d1] w fun e W' => e = .returned (I ((b.y - bk) % d1)) ∧ W' = w) := fun w => rround_calls w q1.1 q1.2
  generalize hx : (b.y - bk) % d1 = bs at *
  have hbs : 0 ≤ bs ∧ bs < d1 := by
    rw [← hx]
    exact ⟨Int.emod_nonneg _ (by omega), Int.emod_lt_of_pos _ (by omega)⟩
  clear hx
  obtain ⟨c1, hc1⟩ : ∃ c1 : Bx, c1 = ⟨b.x, bs, b.z, b.a, b.b + 1, b.c⟩ := ⟨_, rfl⟩
  rw [← hc1]
  have HC1 : Hid (c1 = ⟨b.x, bs, b.z, b.a, b.b + 1, b.c⟩) := hc1
  have HTo : Hid (∀ w, Calls Try.prog 41 #[A3 d0 d1 d2, B6 c1] w fun e W' => e = .returned (B6 (canonB d0 d1 d2 c1)) ∧ Below w.heap.size w W') := fun w => rtold_calls d0 d1 d2 c1 w
  have HMy : Hid (∀ w, Calls Try.prog 39 #[A3 d0 d1 d2, B6 (canonB d0 d1 d2 c1)] w fun e W' => e = .returned (.bool (mayBB d0 d1 d2 (canonB d0 d1 d2 c1))) ∧ Below w.heap.size w W') := fun w => rmayb_calls d0 d1 d2 (canonB d0 d1 d2 c1) w
  have HCl : Hid (∀ w1, mayBB d0 d1 d2 (canonB d0 d1 d2 c1) = true → Below w.heap.size w w1 → Calls Try.prog 40 #[A3 d0 d1 d2, B6 (canonB d0 d1 d2 c1), v] w1 fun e W' => e = .returned (.bool (clearX d0 d1 d2 ws (canonB d0 d1 d2 c1))) ∧ Below w1.heap.size w1 W') := fun w1 hm h1 => rgclear_calls w1 ⟨q0, q1, q2⟩ ((mayBB_iff _ _ _ _).1 hm) (hv.later h1)
  have HSR : Hid (stepR d0 d1 d2 ws b (canonB d0 d1 d2 c1) = if mayBB d0 d1 d2 (canonB d0 d1 d2 c1) && clearX d0 d1 d2 ws (canonB d0 d1 d2 c1) then canonB d0 d1 d2 c1 else b) := rfl
  obtain ⟨ao, cap, rfl, _⟩ := hv.view
  clear hv hc1
  generalize stepR d0 d1 d2 ws b (canonB d0 d1 d2 c1) = R at *
  generalize mayBB d0 d1 d2 (canonB d0 d1 d2 c1) = mb at *
  generalize clearX d0 d1 d2 ws (canonB d0 d1 d2 c1) = cl at *
  generalize canonB d0 d1 d2 c1 = cc at *
  generalize ws.length = n at *
  obtain ⟨W, hW, hs, hB0, b0, b1, b2⟩ := three_start w #[I d0, I d1, I d2] (C6 b) #[I 0, I 0, I 0, I 0, I 0, I 0] 26 32 32
  have HW : Hid (((w.alloc (.cells #[I d0, I d1, I d2] 26)).alloc (.cells (C6 b) 32)).alloc (.cells #[I 0, I 0, I 0, I 0, I 0, I 0] 32) = W) := hW
  clear hW
  go_enter Try.func67, Try.ntmps67
  go_wp2_with fail
  obtain ⟨W4, hW4⟩ : ∃ W4, W4 = W.alloc (.cells #[I b.x, I b.y, I b.z, I b.a, I (b.b + 1), I b.c] 32) := ⟨_, rfl⟩
  have hB4 : Below W.heap.size W W4 := by rw [hW4]; exact (Below.refl _ W).alloc (Nat.le_refl _) _
  have kc : Blk W4 (w.heap.size + 1 + 1 + 1) 32 #[I b.x, I b.y, I b.z, I b.a, I (b.b + 1), I b.c] := by
    rw [hW4, show w.heap.size + 1 + 1 + 1 = W.heap.size from hs.symm]; exact Blk.new _ _ _
  have HK : Hid (Blk W4 (w.heap.size + 1 + 1 + 1) 32 #[I b.x, I b.y, I b.z, I b.a, I (b.b + 1), I b.c] ∧ Blk W4 w.heap.size 26 #[I d0, I d1, I d2] ∧ Blk W4 (w.heap.size + 1) 32 (C6 b) ∧ Blk W4 (w.heap.size + 1 + 1) 32 #[I 0, I 0, I 0, I 0, I 0, I 0] ∧ Below w.heap.size w W4) := ⟨kc, b0.later hB4, b1.later hB4, b2.later hB4, then_below hB0 hB4⟩
  have e0 : ∀ x : Ext W4, x.wd.cell? ⟨w.heap.size, 1, none⟩ = some (I d1) := fun x => (HK.out.2.1.later x.le).cell 1
  have e1 : ∀ x : Ext W4, x.wd.cell? ⟨w.heap.size + 1 + 1 + 1, 1, none⟩ = some (I b.y) := fun x => (HK.out.1.later x.le).cell 1
  have HW4 : Hid (W.alloc (.cells #[I b.x, I b.y, I b.z, I b.a, I (b.b + 1), I b.c] 32) = W4) := hW4.symm
  clear hW4 kc b0 b1 b2 hB4 hB0 hs
  rw [HW.out, HW4.out]
  refine (wpIn_wide (n := 0)).1 (wpIn_region_tail2 13 (loose_wide _) mixed (by kernel_rfl) ?_)
  simp only [List.take_succ_cons, List.take_zero, List.drop_succ_cons, List.drop_zero]
  repeat (go_big_quiet_step (exact calls_ext_same (HR.out _)))
  refine wpQuiet_nil ?_
  intro X
  have hX := X.le
  have kc := HK.out.1.later hX
  have k0 := HK.out.2.1.later hX
  have k1 := HK.out.2.2.1.later hX
  have k2 := HK.out.2.2.2.1.later hX
  have hB := then_below HK.out.2.2.2.2 hX
  clear e0 e1 hX HK HW HW4
  generalize X.wd = w1 at *
  clear X W W4
  have f1 := kc.frozen 1
  have g1 := kc.cell 1
  have gz := kc.lt
  simp at g1
  gi_wp2
  have kc2 : Blk (w1.setCell ⟨w.heap.size + 1 + 1 + 1, 1, none⟩ (I bs)) (w.heap.size + 1 + 1 + 1) 32 (C6 c1) := by
    have := kc.set 1 (I bs)
    rw [HC1.out]
    exact this
  have HK : Hid (Blk (w1.setCell ⟨w.heap.size + 1 + 1 + 1, 1, none⟩ (I bs)) w.heap.size 26 #[I d0, I d1, I d2] ∧ Blk (w1.setCell ⟨w.heap.size + 1 + 1 + 1, 1, none⟩ (I bs)) (w.heap.size + 1) 32 (C6 b) ∧ Blk (w1.setCell ⟨w.heap.size + 1 + 1 + 1, 1, none⟩ (I bs)) (w.heap.size + 1 + 1) 32 #[I 0, I 0, I 0, I 0, I 0, I 0] ∧ Below w.heap.size w (w1.setCell ⟨w.heap.size + 1 + 1 + 1, 1, none⟩ (I bs))) :=
    ⟨k0.other 1 _ (by omega), k1.other 1 _ (by omega), k2.other 1 _ (by omega), hB.setCell (p := ⟨w.heap.size + 1 + 1 + 1, 1, none⟩) (by show w.heap.size ≤ w.heap.size + 1 + 1 + 1; omega) _⟩
  clear kc k0 k1 k2 hB f1 g1 gz
  generalize w1.setCell ⟨w.heap.size + 1 + 1 + 1, 1, none⟩ (I bs) = w2 at *
  obtain ⟨e0, e1, e2, ez⟩ := HK.out.1.three (Below.refl _ _)
  obtain ⟨g0, g1, g2, g3, g4, g5, gz⟩ := kc2.sixX (Below.refl _ _)
  go_wp2_with fail
  refine (HTo.out _).mono ?_
  rintro e w3 ⟨rfl, hB⟩
  have kc := kc2.later hB
  replace HK : Hid (Blk w3 w.heap.size 26 #[I d0, I d1, I d2] ∧ Blk w3 (w.heap.size + 1) 32 (C6 b) ∧ Blk w3 (w.heap.size + 1 + 1) 32 #[I 0, I 0, I 0, I 0, I 0, I 0] ∧ Below w.heap.size w w3) := ⟨HK.out.1.later hB, HK.out.2.1.later hB, HK.out.2.2.1.later hB, then_below HK.out.2.2.2 hB⟩
  clear kc2 hB e0 e1 e2 ez g0 g1 g2 g3 g4 g5 gz HTo HR
  obtain ⟨⟨c0, c1', c2, c3, c4, c5⟩, f0, f1, f2, f3, f4, f5⟩ := kc.row6
  have gz := kc.lt
  obtain ⟨e0, e1, e2, ez⟩ := HK.out.1.three (Below.refl _ _)
  have HKc : Hid (Blk w3 (w.heap.size + 1 + 1 + 1) 32 (C6 c1)) := kc
  clear kc
  go_wp2_with fail
  refine (HMy.out _).mono ?_
  rintro e w4 ⟨rfl, hB⟩
  have kc := (HKc.out.set6 (I cc.x) (I cc.y) (I cc.z) (I cc.a) (I cc.b) (I cc.c)).later hB
  have k0 := (HK.out.1.other6 (B' := w.heap.size + 1 + 1 + 1) (by omega) (I cc.x) (I cc.y) (I cc.z) (I cc.a) (I cc.b) (I cc.c)).later hB
  have k1 := (HK.out.2.1.other6 (B' := w.heap.size + 1 + 1 + 1) (by omega) (I cc.x) (I cc.y) (I cc.z) (I cc.a) (I cc.b) (I cc.c)).later hB
  have k2 := (HK.out.2.2.1.other6 (B' := w.heap.size + 1 + 1 + 1) (by omega) (I cc.x) (I cc.y) (I cc.z) (I cc.a) (I cc.b) (I cc.c)).later hB
  have hBB := then_below (below_set6 HK.out.2.2.2 (show w.heap.size ≤ w.heap.size + 1 + 1 + 1 by omega) (I cc.x) (I cc.y) (I cc.z) (I cc.a) (I cc.b) (I cc.c)) hB
  clear hB HKc HK e0 e1 e2 ez c0 c1' c2 c3 c4 c5 f0 f1 f2 f3 f4 f5 gz HMy
  have HKc : Hid (Blk w4 (w.heap.size + 1 + 1 + 1) 32 (C6 cc)) := kc
  have HK : Hid (Blk w4 w.heap.size 26 #[I d0, I d1, I d2] ∧ Blk w4 (w.heap.size + 1) 32 (C6 b) ∧ Blk w4 (w.heap.size + 1 + 1) 32 #[I 0, I 0, I 0, I 0, I 0, I 0] ∧ Below w.heap.size w w4) := ⟨k0, k1, k2, hBB⟩
  clear kc k0 k1 k2 hBB w3 w2
  cases mb
  · have HRb : Hid (R = b) := by
      show _ = _
      simpa using HSR.out
    clear HSR HCl
    obtain ⟨e0, e1, e2, ez⟩ := HK.out.1.three (Below.refl _ _)
    obtain ⟨g0, g1, g2, g3, g4, g5, gz⟩ := HK.out.2.1.sixX (Below.refl _ _)
    obtain ⟨_, f0, f1, f2, f3, f4, f5⟩ := HK.out.2.2.1.row6
    have yz := HK.out.2.2.1.lt
    go_wp2
    obtain ⟨⟨m0, m1, m2, m3, m4, m5⟩, _⟩ := (HK.out.2.2.1.set6 (I b.x) (I b.y) (I b.z) (I b.a) (I b.b) (I b.c)).row6
    have hX := below_set6 HK.out.2.2.2 (show w.heap.size ≤ w.heap.size + 1 + 1 by omega) (I b.x) (I b.y) (I b.z) (I b.a) (I b.b) (I b.c)
    exact bodyPost_ret (v := B6 b) (by simp [results, Try.f67, go_sem, m0, m1, m2, m3, m4, m5]) rfl ⟨by rw [HRb.out], hX⟩
  · have HClx : Hid (∀ w1, Below w.heap.size w w1 → Calls Try.prog 40 #[A3 d0 d1 d2, B6 cc, .slice ao n cap] w1 fun e W' => e = .returned (.bool cl) ∧ Below w1.heap.size w1 W') := fun w1 h1 => HCl.out w1 (by trivial) h1
    obtain ⟨e0, e1, e2, ez⟩ := HK.out.1.three (Below.refl _ _)
    obtain ⟨g0, g1, g2, g3, g4, g5, gz⟩ := HKc.out.sixX (Below.refl _ _)
    clear HCl
    go_wp2_with fail
    refine (HClx.out _ HK.out.2.2.2).mono ?_
    rintro e w5 ⟨rfl, hB⟩
    replace HKc : Hid (Blk w5 (w.heap.size + 1 + 1 + 1) 32 (C6 cc)) := HKc.out.later hB
    replace HK : Hid (Blk w5 w.heap.size 26 #[I d0, I d1, I d2] ∧ Blk w5 (w.heap.size + 1) 32 (C6 b) ∧ Blk w5 (w.heap.size + 1 + 1) 32 #[I 0, I 0, I 0, I 0, I 0, I 0] ∧ Below w.heap.size w w5) := ⟨HK.out.1.later hB, HK.out.2.1.later hB, HK.out.2.2.1.later hB, then_below HK.out.2.2.2 hB⟩
    clear hB HClx e0 e1 e2 ez g0 g1 g2 g3 g4 g5 gz
    cases cl
    · have HRb : Hid (R = b) := by
        show _ = _
        simpa using HSR.out
      clear HSR
      obtain ⟨e0, e1, e2, ez⟩ := HK.out.1.three (Below.refl _ _)
      obtain ⟨g0, g1, g2, g3, g4, g5, gz⟩ := HK.out.2.1.sixX (Below.refl _ _)
      obtain ⟨_, f0, f1, f2, f3, f4, f5⟩ := HK.out.2.2.1.row6
      have yz := HK.out.2.2.1.lt
      go_wp2
      obtain ⟨⟨m0, m1, m2, m3, m4, m5⟩, _⟩ := (HK.out.2.2.1.set6 (I b.x) (I b.y) (I b.z) (I b.a) (I b.b) (I b.c)).row6
      have hX := below_set6 HK.out.2.2.2 (show w.heap.size ≤ w.heap.size + 1 + 1 by omega) (I b.x) (I b.y) (I b.z) (I b.a) (I b.b) (I b.c)
      exact bodyPost_ret (v := B6 b) (by simp [results, Try.f67, go_sem, m0, m1, m2, m3, m4, m5]) rfl ⟨by rw [HRb.out], hX⟩
    · have HRb : Hid (R = cc) := by
        show _ = _
        simpa using HSR.out
      clear HSR
      obtain ⟨g0, g1, g2, g3, g4, g5, gz⟩ := HKc.out.sixX (Below.refl _ _)
      obtain ⟨_, f0, f1, f2, f3, f4, f5⟩ := HK.out.2.2.1.row6
      have yz := HK.out.2.2.1.lt
      go_wp2
      obtain ⟨⟨m0, m1, m2, m3, m4, m5⟩, _⟩ := (HK.out.2.2.1.set6 (I cc.x) (I cc.y) (I cc.z) (I cc.a) (I cc.b) (I cc.c)).row6
      have hX := below_set6 HK.out.2.2.2 (show w.heap.size ≤ w.heap.size + 1 + 1 by omega) (I cc.x) (I cc.y) (I cc.z) (I cc.a) (I cc.b) (I cc.c)
      exact bodyPost_ret (v := B6 cc) (by simp [results, Try.f67, go_sem, m0, m1, m2, m3, m4, m5]) rfl ⟨by rw [HRb.out], hX⟩

set_option maxRecDepth 100000 in
set_option maxHeartbeats 8000000 in
theorem rstep2_calls {d0 d1 d2 : Int} {b : Bx} {v : Value} {ws : List Nat} {bk : Int} (w : World) (hd : mayD d0 d1 d2) (hb : mayB d0 d1 d2 b) (hbk : 0 ≤ bk ∧ bk ≤ 1) (hv : Wds w v ws) :
    Calls Try.prog 67 #[A3 d0 d1 d2, B6 b, v, I 2, I bk] w fun e W' => e = .returned (B6 (stepR d0 d1 d2 ws b (canonB d0 d1 d2 ⟨b.x, b.y, (b.z - bk) % d2, b.a, b.b, b.c + 1⟩))) ∧ Below w.heap.size w W' := by
  have mixed : Try.prog.follows .mixedOrders = true := by kernel_rfl
  obtain ⟨s0, s1, s2⟩ := sizes_bd hd hb
  obtain ⟨⟨_, p0⟩, ⟨_, p1⟩, ⟨_, p2⟩⟩ := hb
  obtain ⟨q0, q1, q2⟩ := hd
  unfold okD at q0 q1 q2
  have HR : Hid (∀ w, Calls Try.prog 87 #[I (b.z - bk), I d2] w fun e W' => e = .returned (I ((b.z - bk) % d2)) ∧ W' = w) := fun w => rround_calls w q2.1 q2.2
  generalize hx : (b.z - bk) % d2 = bs at *
  have hbs : 0 ≤ bs ∧ bs < d2 := by
    rw [← hx]
    exact ⟨Int.emod_nonneg _ (by omega), Int.emod_lt_of_pos _ (by omega)⟩
  clear hx
  obtain ⟨c1, hc1⟩ : ∃ c1 : Bx, c1 = ⟨b.x, b.y, bs, b.a, b.b, b.c + 1⟩ := ⟨_, rfl⟩
  rw [← hc1]
  have HC1 : Hid (c1 = ⟨b.x, b.y, bs, b.a, b.b, b.c + 1⟩) := hc1
  have HTo : Hid (∀ w, Calls Try.prog 41 #[A3 d0 d1 d2, B6 c1] w fun e W' => e = .returned (B6 (canonB d0 d1 d2 c1)) ∧ Below w.heap.size w W') := fun w => rtold_calls d0 d1 d2 c1 w
  have HMy : Hid (∀ w, Calls Try.prog 39 #[A3 d0 d1 d2, B6 (canonB d0 d1 d2 c1)] w fun e W' => e = .returned (.bool (mayBB d0 d1 d2 (canonB d0 d1 d2 c1))) ∧ Below w.heap.size w W') := fun w => rmayb_calls d0 d1 d2 (canonB d0 d1 d2 c1) w
  have HCl : Hid (∀ w1, mayBB d0 d1 d2 (canonB d0 d1 d2 c1) = true → Below w.heap.size w w1 → Calls Try.prog 40 #[A3 d0 d1 d2, B6 (canonB d0 d1 d2 c1), v] w1 fun e W' => e = .returned (.bool (clearX d0 d1 d2 ws (canonB d0 d1 d2 c1))) ∧ Below w1.heap.size w1 W') := fun w1 hm h1 => rgclear_calls w1 ⟨q0, q1, q2⟩ ((mayBB_iff _ _ _ _).1 hm) (hv.later h1)
  have HSR : Hid (stepR d0 d1 d2 ws b (canonB d0 d1 d2 c1) = if mayBB d0 d1 d2 (canonB d0 d1 d2 c1) && clearX d0 d1 d2 ws (canonB d0 d1 d2 c1) then canonB d0 d1 d2 c1 else b) := rfl
  obtain ⟨ao, cap, rfl, _⟩ := hv.view
  clear hv hc1
  generalize stepR d0 d1 d2 ws b (canonB d0 d1 d2 c1) = R at *
  generalize mayBB d0 d1 d2 (canonB d0 d1 d2 c1) = mb at *
  generalize clearX d0 d1 d2 ws (canonB d0 d1 d2 c1) = cl at *
  generalize canonB d0 d1 d2 c1 = cc at *
  generalize ws.length = n at *
  obtain ⟨W, hW, hs, hB0, b0, b1, b2⟩ := three_start w #[I d0, I d1, I d2] (C6 b) #[I 0, I 0, I 0, I 0, I 0, I 0] 26 32 32
  have HW : Hid (((w.alloc (.cells #[I d0, I d1, I d2] 26)).alloc (.cells (C6 b) 32)).alloc (.cells #[I 0, I 0, I 0, I 0, I 0, I 0] 32) = W) := hW
  clear hW
  go_enter Try.func67, Try.ntmps67
  go_wp2_with fail
  obtain ⟨W4, hW4⟩ : ∃ W4, W4 = W.alloc (.cells #[I b.x, I b.y, I b.z, I b.a, I b.b, I (b.c + 1)] 32) := ⟨_, rfl⟩
  have hB4 : Below W.heap.size W W4 := by rw [hW4]; exact (Below.refl _ W).alloc (Nat.le_refl _) _
  have kc : Blk W4 (w.heap.size + 1 + 1 + 1) 32 #[I b.x, I b.y, I b.z, I b.a, I b.b, I (b.c + 1)] := by
    rw [hW4, show w.heap.size + 1 + 1 + 1 = W.heap.size from hs.symm]; exact Blk.new _ _ _
  have HK : Hid (Blk W4 (w.heap.size + 1 + 1 + 1) 32 #[I b.x, I b.y, I b.z, I b.a, I b.b, I (b.c + 1)] ∧ Blk W4 w.heap.size 26 #[I d0, I d1, I d2] ∧ Blk W4 (w.heap.size + 1) 32 (C6 b) ∧ Blk W4 (w.heap.size + 1 + 1) 32 #[I 0, I 0, I 0, I 0, I 0, I 0] ∧ Below w.heap.size w W4) := ⟨kc, b0.later hB4, b1.later hB4, b2.later hB4, then_below hB0 hB4⟩
  have e0 : ∀ x : Ext W4, x.wd.cell? ⟨w.heap.size, 2, none⟩ = some (I d2) := fun x => (HK.out.2.1.later x.le).cell 2
  have e1 : ∀ x : Ext W4, x.wd.cell? ⟨w.heap.size + 1 + 1 + 1, 2, none⟩ = some (I b.z) := fun x => (HK.out.1.later x.le).cell 2
  have HW4 : Hid (W.alloc (.cells #[I b.x, I b.y, I b.z, I b.a, I b.b, I (b.c + 1)] 32) = W4) := hW4.symm
  clear hW4 kc b0 b1 b2 hB4 hB0 hs
  rw [HW.out, HW4.out]
  refine (wpIn_wide (n := 0)).1 (wpIn_region_tail2 13 (loose_wide _) mixed (by kernel_rfl) ?_)
  simp only [List.take_succ_cons, List.take_zero, List.drop_succ_cons, List.drop_zero]
  repeat (go_big_quiet_step (exact calls_ext_same (HR.out _)))
  refine wpQuiet_nil ?_
  intro X
  have hX := X.le
  have kc := HK.out.1.later hX
  have k0 := HK.out.2.1.later hX
  have k1 := HK.out.2.2.1.later hX
  have k2 := HK.out.2.2.2.1.later hX
  have hB := then_below HK.out.2.2.2.2 hX
  clear e0 e1 hX HK HW HW4
  generalize X.wd = w1 at *
  clear X W W4
  have f1 := kc.frozen 2
  have g1 := kc.cell 2
  have gz := kc.lt
  simp at g1
  gi_wp2
  have kc2 : Blk (w1.setCell ⟨w.heap.size + 1 + 1 + 1, 2, none⟩ (I bs)) (w.heap.size + 1 + 1 + 1) 32 (C6 c1) := by
    have := kc.set 2 (I bs)
    rw [HC1.out]
    exact this
  have HK : Hid (Blk (w1.setCell ⟨w.heap.size + 1 + 1 + 1, 2, none⟩ (I bs)) w.heap.size 26 #[I d0, I d1, I d2] ∧ Blk (w1.setCell ⟨w.heap.size + 1 + 1 + 1, 2, none⟩ (I bs)) (w.heap.size + 1) 32 (C6 b) ∧ Blk (w1.setCell ⟨w.heap.size + 1 + 1 + 1, 2, none⟩ (I bs)) (w.heap.size + 1 + 1) 32 #[I 0, I 0, I 0, I 0, I 0, I 0] ∧ Below w.heap.size w (w1.setCell ⟨w.heap.size + 1 + 1 + 1, 2, none⟩ (I bs))) :=
    ⟨k0.other 2 _ (by omega), k1.other 2 _ (by omega), k2.other 2 _ (by omega), hB.setCell (p := ⟨w.heap.size + 1 + 1 + 1, 2, none⟩) (by show w.heap.size ≤ w.heap.size + 1 + 1 + 1; omega) _⟩
  clear kc k0 k1 k2 hB f1 g1 gz
  generalize w1.setCell ⟨w.heap.size + 1 + 1 + 1, 2, none⟩ (I bs) = w2 at *
  obtain ⟨e0, e1, e2, ez⟩ := HK.out.1.three (Below.refl _ _)
  obtain ⟨g0, g1, g2, g3, g4, g5, gz⟩ := kc2.sixX (Below.refl _ _)
  go_wp2_with fail
  refine (HTo.out _).mono ?_
  rintro e w3 ⟨rfl, hB⟩
  have kc := kc2.later hB
  replace HK : Hid (Blk w3 w.heap.size 26 #[I d0, I d1, I d2] ∧ Blk w3 (w.heap.size + 1) 32 (C6 b) ∧ Blk w3 (w.heap.size + 1 + 1) 32 #[I 0, I 0, I 0, I 0, I 0, I 0] ∧ Below w.heap.size w w3) := ⟨HK.out.1.later hB, HK.out.2.1.later hB, HK.out.2.2.1.later hB, then_below HK.out.2.2.2 hB⟩
  clear kc2 hB e0 e1 e2 ez g0 g1 g2 g3 g4 g5 gz HTo HR
  obtain ⟨⟨c0, c1', c2, c3, c4, c5⟩, f0, f1, f2, f3, f4, f5⟩ := kc.row6
  have gz := kc.lt
  obtain ⟨e0, e1, e2, ez⟩ := HK.out.1.three (Below.refl _ _)
  have HKc : Hid (Blk w3 (w.heap.size + 1 + 1 + 1) 32 (C6 c1)) := kc
  clear kc
  go_wp2_with fail
  refine (HMy.out _).mono ?_
  rintro e w4 ⟨rfl, hB⟩
  have kc := (HKc.out.set6 (I cc.x) (I cc.y) (I cc.z) (I cc.a) (I cc.b) (I cc.c)).later hB
  have k0 := (HK.out.1.other6 (B' := w.heap.size + 1 + 1 + 1) (by omega) (I cc.x) (I cc.y) (I cc.z) (I cc.a) (I cc.b) (I cc.c)).later hB
  have k1 := (HK.out.2.1.other6 (B' := w.heap.size + 1 + 1 + 1) (by omega) (I cc.x) (I cc.y) (I cc.z) (I cc.a) (I cc.b) (I cc.c)).later hB
  have k2 := (HK.out.2.2.1.other6 (B' := w.heap.size + 1 + 1 + 1) (by omega) (I cc.x) (I cc.y) (I cc.z) (I cc.a) (I cc.b) (I cc.c)).later hB
  have hBB := then_below (below_set6 HK.out.2.2.2 (show w.heap.size ≤ w.heap.size + 1 + 1 + 1 by omega) (I cc.x) (I cc.y) (I cc.z) (I cc.a) (I cc.b) (I cc.c)) hB
  clear hB HKc HK e0 e1 e2 ez c0 c1' c2 c3 c4 c5 f0 f1 f2 f3 f4 f5 gz HMy
  have HKc : Hid (Blk w4 (w.heap.size + 1 + 1 + 1) 32 (C6 cc)) := kc
  have HK : Hid (Blk w4 w.heap.size 26 #[I d0, I d1, I d2] ∧ Blk w4 (w.heap.size + 1) 32 (C6 b) ∧ Blk w4 (w.heap.size + 1 + 1) 32 #[I 0, I 0, I 0, I 0, I 0, I 0] ∧ Below w.heap.size w w4) := ⟨k0, k1, k2, hBB⟩
  clear kc k0 k1 k2 hBB w3 w2
  cases mb
  · have HRb : Hid (R = b) := by
      show _ = _
      simpa using HSR.out
    clear HSR HCl
    obtain ⟨e0, e1, e2, ez⟩ := HK.out.1.three (Below.refl _ _)
    obtain ⟨g0, g1, g2, g3, g4, g5, gz⟩ := HK.out.2.1.sixX (Below.refl _ _)
    obtain ⟨_, f0, f1, f2, f3, f4, f5⟩ := HK.out.2.2.1.row6
    have yz := HK.out.2.2.1.lt
    go_wp2
    obtain ⟨⟨m0, m1, m2, m3, m4, m5⟩, _⟩ := (HK.out.2.2.1.set6 (I b.x) (I b.y) (I b.z) (I b.a) (I b.b) (I b.c)).row6
    have hX := below_set6 HK.out.2.2.2 (show w.heap.size ≤ w.heap.size + 1 + 1 by omega) (I b.x) (I b.y) (I b.z) (I b.a) (I b.b) (I b.c)
    exact bodyPost_ret (v := B6 b) (by simp [results, Try.f67, go_sem, m0, m1, m2, m3, m4, m5]) rfl ⟨by rw [HRb.out], hX⟩
  · have HClx : Hid (∀ w1, Below w.heap.size w w1 → Calls Try.prog 40 #[A3 d0 d1 d2, B6 cc, .slice ao n cap] w1 fun e W' => e = .returned (.bool cl) ∧ Below w1.heap.size w1 W') := fun w1 h1 => HCl.out w1 (by trivial) h1
    obtain ⟨e0, e1, e2, ez⟩ := HK.out.1.three (Below.refl _ _)
    obtain ⟨g0, g1, g2, g3, g4, g5, gz⟩ := HKc.out.sixX (Below.refl _ _)
    clear HCl
    go_wp2_with fail
    refine (HClx.out _ HK.out.2.2.2).mono ?_
    rintro e w5 ⟨rfl, hB⟩
    replace HKc : Hid (Blk w5 (w.heap.size + 1 + 1 + 1) 32 (C6 cc)) := HKc.out.later hB
    replace HK : Hid (Blk w5 w.heap.size 26 #[I d0, I d1, I d2] ∧ Blk w5 (w.heap.size + 1) 32 (C6 b) ∧ Blk w5 (w.heap.size + 1 + 1) 32 #[I 0, I 0, I 0, I 0, I 0, I 0] ∧ Below w.heap.size w w5) := ⟨HK.out.1.later hB, HK.out.2.1.later hB, HK.out.2.2.1.later hB, then_below HK.out.2.2.2 hB⟩
    clear hB HClx e0 e1 e2 ez g0 g1 g2 g3 g4 g5 gz
    cases cl
    · have HRb : Hid (R = b) := by
        show _ = _
        simpa using HSR.out
      clear HSR
      obtain ⟨e0, e1, e2, ez⟩ := HK.out.1.three (Below.refl _ _)
      obtain ⟨g0, g1, g2, g3, g4, g5, gz⟩ := HK.out.2.1.sixX (Below.refl _ _)
      obtain ⟨_, f0, f1, f2, f3, f4, f5⟩ := HK.out.2.2.1.row6
      have yz := HK.out.2.2.1.lt
      go_wp2
      obtain ⟨⟨m0, m1, m2, m3, m4, m5⟩, _⟩ := (HK.out.2.2.1.set6 (I b.x) (I b.y) (I b.z) (I b.a) (I b.b) (I b.c)).row6
      have hX := below_set6 HK.out.2.2.2 (show w.heap.size ≤ w.heap.size + 1 + 1 by omega) (I b.x) (I b.y) (I b.z) (I b.a) (I b.b) (I b.c)
      exact bodyPost_ret (v := B6 b) (by simp [results, Try.f67, go_sem, m0, m1, m2, m3, m4, m5]) rfl ⟨by rw [HRb.out], hX⟩
    · have HRb : Hid (R = cc) := by
        show _ = _
        simpa using HSR.out
      clear HSR
      obtain ⟨g0, g1, g2, g3, g4, g5, gz⟩ := HKc.out.sixX (Below.refl _ _)
      obtain ⟨_, f0, f1, f2, f3, f4, f5⟩ := HK.out.2.2.1.row6
      have yz := HK.out.2.2.1.lt
      go_wp2
      obtain ⟨⟨m0, m1, m2, m3, m4, m5⟩, _⟩ := (HK.out.2.2.1.set6 (I cc.x) (I cc.y) (I cc.z) (I cc.a) (I cc.b) (I cc.c)).row6
      have hX := below_set6 HK.out.2.2.2 (show w.heap.size ≤ w.heap.size + 1 + 1 by omega) (I cc.x) (I cc.y) (I cc.z) (I cc.a) (I cc.b) (I cc.c)
      exact bodyPost_ret (v := B6 cc) (by simp [results, Try.f67, go_sem, m0, m1, m2, m3, m4, m5]) rfl ⟨by rw [HRb.out], hX⟩

end Go.Proofs.Ytjmfdpilmljppaa

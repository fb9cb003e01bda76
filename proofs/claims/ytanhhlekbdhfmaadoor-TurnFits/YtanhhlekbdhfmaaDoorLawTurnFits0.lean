/-
  The statement TurnFits, walked, where the first axis is number 0.
-/
import Derived.Test.YtanhhlekbdhfmaaDoorLawTurnFits
namespace Go.Proofs.YtanhhlekbdhfmaaDoor
open Go Go.RowKit Go.Shelf

attribute [local go_sem] Oper.semAt_some ext_const eq_ints_at eq_bools_at
attribute [local go_sem high] eq_wants

set_option maxRecDepth 100000 in
set_option maxHeartbeats 8000000 in
theorem tf_00 {d0 d1 d2 x y z : Int} {p q r t : Bool} (a b : Int) (w : World) (hO : OrdOk w) (hd : mayD d0 d1 d2) (hm : mayD x y z) (ha : a.tmod 3 = 0) (hb : b.tmod 3 = 0) :
    Calls Tryd.prog 6 #[A3 d0 d1 d2, V7 x y z p q r t, .int .u8 a, .int .u8 b] w fun e W' => e = .returned (.bool true) ∧ Below w.heap.size w W' := by
  have HO : Hid (OrdOk w) := hO
  clear hO
  have hd' := hd
  unfold mayD okD at hd'
  obtain ⟨m, hmin⟩ : ∃ m, min (wrap64 (d0 + 1)) 16 = m := ⟨_, rfl⟩
  have hwr : wrap64 (d0 + 1) = d0 + 1 := wrap_in _ (by omega)
  have hle : d0 ≤ m := by rw [← hmin, hwr]; omega
  have hdm : mayD m d1 d2 := by unfold mayD okD; rw [← hmin, hwr]; omega
  have hdo : mayD d0 d1 d2 := by unfold mayD okD; omega
  have F1 := fun (w : World) (hO : OrdOk w) => fits_yes (p := p) (q := q) (r := r) (t := t) w hO hd hm
  have F2 := fun (w : World) (hO : OrdOk w) => fits_yes (p := p) (q := q) (r := r) (t := t) w hO hdm hm
  have F3 := fun (w : World) (hO : OrdOk w) => fits_yes (p := p) (q := q) (r := r) (t := t) w hO hdo hm
  have F4 := fun (w : World) (hO : OrdOk w) => fits_yes (p := p) (q := q) (r := r) (t := true) w hO hd hm
  have HX : Hid (fitsT (d0, d1, d2) (x, y, z, p, q, r, t) = true → fitsT (m, d1, d2) (x, y, z, p, q, r, t) = true) := fits_more (hle) (Int.le_refl _) (Int.le_refl _)
  have HZ : Hid (fitsT (d0, d1, d2) (x, y, z, p, q, r, t) = true → fitsT (d0, d1, d2) (x, y, z, p, q, r, true) = true) := fun h => fits_free h
  have HY : Hid (t = true → fitsT (d0, d1, d2) (x, y, z, p, q, r, t) = fitsT (d0, d1, d2) (x, y, z, p, q, r, t)) := fun _ => rfl
  generalize fitsT (d0, d1, d2) (x, y, z, p, q, r, true) = Z at F4 HZ
  generalize fitsT (m, d1, d2) (x, y, z, p, q, r, t) = X at F2 HX
  
  generalize fitsT (d0, d1, d2) (x, y, z, p, q, r, t) = is at F1 F3 HX HY HZ
  obtain ⟨W, hW, hBW, b0, b1⟩ := two_start w #[I d0, I d1, I d2] (cells7 x y z p q r t) 33 29
  have HW : Hid ((w.alloc (.cells #[I d0, I d1, I d2] 33)).alloc (.cells (cells7 x y z p q r t) 29) = W) := hW
  clear hW hd hm hdm hdo hle hwr hd'
  go_enter Tryd.func6, Tryd.ntmps6
  go_wp2_with fail
  rw [HW.out]
  refine (talive_calls _ (HO.out.later hBW)).mono ?_
  rintro e w1 ⟨rfl, hT⟩
  obtain ⟨s0, s1, s2, s3, s4, s5, s6⟩ := (b1.later hT).seven
  obtain ⟨g0, g1, g2, gl⟩ := b0.threeB hT
  go_wp2_with fail
  refine (F1 _ (HO.out.later (then_below hBW hT))).mono ?_
  rintro e w2 ⟨rfl, hB⟩
  have hT := then_below hT hB
  clear s0 s1 s2 s3 s4 s5 s6 g0 g1 g2 gl hB F1
  obtain ⟨s0, s1, s2, s3, s4, s5, s6⟩ := (b1.later hT).seven
  obtain ⟨g0, g1, g2, gl⟩ := b0.threeB hT
  have sl := (b1.later hT).lt
  go_wp2_with fail
  have hT := then_alloc hT (.cells #[I m, I d1, I d2] 33)
  refine (F2 _ (HO.out.later (then_below hBW hT))).mono ?_
  rintro e w3 ⟨rfl, hB⟩
  have hT := then_below hT hB
  clear s0 s1 s2 s3 s4 s5 s6 g0 g1 g2 gl sl hB F2
  obtain ⟨s0, s1, s2, s3, s4, s5, s6⟩ := (b1.later hT).seven
  obtain ⟨g0, g1, g2, gl⟩ := b0.threeB hT
  have sl := (b1.later hT).lt
  go_wp2_with fail
  have hT := then_alloc hT (.cells #[I d0, I d1, I d2] 33)
  refine (F3 _ (HO.out.later (then_below hBW hT))).mono ?_
  rintro e w4 ⟨rfl, hB⟩
  have hT := then_below hT hB
  clear s0 s1 s2 s3 s4 s5 s6 g0 g1 g2 gl sl hB F3
  obtain ⟨s0, s1, s2, s3, s4, s5, s6⟩ := (b1.later hT).seven
  obtain ⟨g0, g1, g2, gl⟩ := b0.threeB hT
  have sl := (b1.later hT).lt
  go_wp2_with fail
  have hT := then_alloc hT (.cells (cells7 x y z p q r true) 29)
  refine (F4 _ (HO.out.later (then_below hBW hT))).mono ?_
  rintro e w5 ⟨rfl, hB⟩
  have hT := then_below hT hB
  clear s0 s1 s2 s3 s4 s5 s6 g0 g1 g2 gl sl hB F4
  obtain ⟨s0, s1, s2, s3, s4, s5, s6⟩ := (b1.later hT).seven
  have hT := then_below hBW hT
  clear b0 b1 hBW HW HO
  cases is
  · cases t
    · go_wp2
      go_ret
      exact ⟨rfl, hT⟩
    · skip
      go_wp2
      go_ret
      exact ⟨rfl, hT⟩
  · obtain rfl := HX.out rfl
    obtain rfl := HZ.out rfl
    cases t
    · go_wp2
      go_ret
      exact ⟨rfl, hT⟩
    · skip
      go_wp2
      go_ret
      exact ⟨rfl, hT⟩

set_option maxRecDepth 100000 in
set_option maxHeartbeats 8000000 in
theorem tf_01 {d0 d1 d2 x y z : Int} {p q r t : Bool} (a b : Int) (w : World) (hO : OrdOk w) (hd : mayD d0 d1 d2) (hm : mayD x y z) (ha : a.tmod 3 = 0) (hb : b.tmod 3 = 1) :
    Calls Tryd.prog 6 #[A3 d0 d1 d2, V7 x y z p q r t, .int .u8 a, .int .u8 b] w fun e W' => e = .returned (.bool true) ∧ Below w.heap.size w W' := by
  have HO : Hid (OrdOk w) := hO
  clear hO
  have hd' := hd
  unfold mayD okD at hd'
  obtain ⟨m, hmin⟩ : ∃ m, min (wrap64 (d0 + 1)) 16 = m := ⟨_, rfl⟩
  have hwr : wrap64 (d0 + 1) = d0 + 1 := wrap_in _ (by omega)
  have hle : d0 ≤ m := by rw [← hmin, hwr]; omega
  have hdm : mayD m d1 d2 := by unfold mayD okD; rw [← hmin, hwr]; omega
  have hdo : mayD d1 d0 d2 := by unfold mayD okD; omega
  have F1 := fun (w : World) (hO : OrdOk w) => fits_yes (p := p) (q := q) (r := r) (t := t) w hO hd hm
  have F2 := fun (w : World) (hO : OrdOk w) => fits_yes (p := p) (q := q) (r := r) (t := t) w hO hdm hm
  have F3 := fun (w : World) (hO : OrdOk w) => fits_yes (p := p) (q := q) (r := r) (t := t) w hO hdo hm
  have F4 := fun (w : World) (hO : OrdOk w) => fits_yes (p := p) (q := q) (r := r) (t := true) w hO hd hm
  have HX : Hid (fitsT (d0, d1, d2) (x, y, z, p, q, r, t) = true → fitsT (m, d1, d2) (x, y, z, p, q, r, t) = true) := fits_more (hle) (Int.le_refl _) (Int.le_refl _)
  have HZ : Hid (fitsT (d0, d1, d2) (x, y, z, p, q, r, t) = true → fitsT (d0, d1, d2) (x, y, z, p, q, r, true) = true) := fun h => fits_free h
  have HY : Hid (t = true → fitsT (d1, d0, d2) (x, y, z, p, q, r, t) = fitsT (d0, d1, d2) (x, y, z, p, q, r, t)) := fun h => fits_01 (by simpa [turnT] using h)
  generalize fitsT (d0, d1, d2) (x, y, z, p, q, r, true) = Z at F4 HZ
  generalize fitsT (m, d1, d2) (x, y, z, p, q, r, t) = X at F2 HX
  generalize fitsT (d1, d0, d2) (x, y, z, p, q, r, t) = Y at F3 HY
  generalize fitsT (d0, d1, d2) (x, y, z, p, q, r, t) = is at F1 HX HY HZ
  obtain ⟨W, hW, hBW, b0, b1⟩ := two_start w #[I d0, I d1, I d2] (cells7 x y z p q r t) 33 29
  have HW : Hid ((w.alloc (.cells #[I d0, I d1, I d2] 33)).alloc (.cells (cells7 x y z p q r t) 29) = W) := hW
  clear hW hd hm hdm hdo hle hwr hd'
  go_enter Tryd.func6, Tryd.ntmps6
  go_wp2_with fail
  rw [HW.out]
  refine (talive_calls _ (HO.out.later hBW)).mono ?_
  rintro e w1 ⟨rfl, hT⟩
  obtain ⟨s0, s1, s2, s3, s4, s5, s6⟩ := (b1.later hT).seven
  obtain ⟨g0, g1, g2, gl⟩ := b0.threeB hT
  go_wp2_with fail
  refine (F1 _ (HO.out.later (then_below hBW hT))).mono ?_
  rintro e w2 ⟨rfl, hB⟩
  have hT := then_below hT hB
  clear s0 s1 s2 s3 s4 s5 s6 g0 g1 g2 gl hB F1
  obtain ⟨s0, s1, s2, s3, s4, s5, s6⟩ := (b1.later hT).seven
  obtain ⟨g0, g1, g2, gl⟩ := b0.threeB hT
  have sl := (b1.later hT).lt
  go_wp2_with fail
  have hT := then_alloc hT (.cells #[I m, I d1, I d2] 33)
  refine (F2 _ (HO.out.later (then_below hBW hT))).mono ?_
  rintro e w3 ⟨rfl, hB⟩
  have hT := then_below hT hB
  clear s0 s1 s2 s3 s4 s5 s6 g0 g1 g2 gl sl hB F2
  obtain ⟨s0, s1, s2, s3, s4, s5, s6⟩ := (b1.later hT).seven
  obtain ⟨g0, g1, g2, gl⟩ := b0.threeB hT
  have sl := (b1.later hT).lt
  go_wp2_with fail
  have hT := then_alloc hT (.cells #[I d1, I d0, I d2] 33)
  refine (F3 _ (HO.out.later (then_below hBW hT))).mono ?_
  rintro e w4 ⟨rfl, hB⟩
  have hT := then_below hT hB
  clear s0 s1 s2 s3 s4 s5 s6 g0 g1 g2 gl sl hB F3
  obtain ⟨s0, s1, s2, s3, s4, s5, s6⟩ := (b1.later hT).seven
  obtain ⟨g0, g1, g2, gl⟩ := b0.threeB hT
  have sl := (b1.later hT).lt
  go_wp2_with fail
  have hT := then_alloc hT (.cells (cells7 x y z p q r true) 29)
  refine (F4 _ (HO.out.later (then_below hBW hT))).mono ?_
  rintro e w5 ⟨rfl, hB⟩
  have hT := then_below hT hB
  clear s0 s1 s2 s3 s4 s5 s6 g0 g1 g2 gl sl hB F4
  obtain ⟨s0, s1, s2, s3, s4, s5, s6⟩ := (b1.later hT).seven
  have hT := then_below hBW hT
  clear b0 b1 hBW HW HO
  cases is
  · cases t
    · go_wp2
      go_ret
      exact ⟨rfl, hT⟩
    · have hY := HY.out rfl; subst hY
      go_wp2
      go_ret
      exact ⟨rfl, hT⟩
  · obtain rfl := HX.out rfl
    obtain rfl := HZ.out rfl
    cases t
    · go_wp2
      go_ret
      exact ⟨rfl, hT⟩
    · have hY := HY.out rfl; subst hY
      go_wp2
      go_ret
      exact ⟨rfl, hT⟩

set_option maxRecDepth 100000 in
set_option maxHeartbeats 8000000 in
theorem tf_02 {d0 d1 d2 x y z : Int} {p q r t : Bool} (a b : Int) (w : World) (hO : OrdOk w) (hd : mayD d0 d1 d2) (hm : mayD x y z) (ha : a.tmod 3 = 0) (hb : b.tmod 3 = 2) :
    Calls Tryd.prog 6 #[A3 d0 d1 d2, V7 x y z p q r t, .int .u8 a, .int .u8 b] w fun e W' => e = .returned (.bool true) ∧ Below w.heap.size w W' := by
  have HO : Hid (OrdOk w) := hO
  clear hO
  have hd' := hd
  unfold mayD okD at hd'
  obtain ⟨m, hmin⟩ : ∃ m, min (wrap64 (d0 + 1)) 16 = m := ⟨_, rfl⟩
  have hwr : wrap64 (d0 + 1) = d0 + 1 := wrap_in _ (by omega)
  have hle : d0 ≤ m := by rw [← hmin, hwr]; omega
  have hdm : mayD m d1 d2 := by unfold mayD okD; rw [← hmin, hwr]; omega
  have hdo : mayD d2 d1 d0 := by unfold mayD okD; omega
  have F1 := fun (w : World) (hO : OrdOk w) => fits_yes (p := p) (q := q) (r := r) (t := t) w hO hd hm
  have F2 := fun (w : World) (hO : OrdOk w) => fits_yes (p := p) (q := q) (r := r) (t := t) w hO hdm hm
  have F3 := fun (w : World) (hO : OrdOk w) => fits_yes (p := p) (q := q) (r := r) (t := t) w hO hdo hm
  have F4 := fun (w : World) (hO : OrdOk w) => fits_yes (p := p) (q := q) (r := r) (t := true) w hO hd hm
  have HX : Hid (fitsT (d0, d1, d2) (x, y, z, p, q, r, t) = true → fitsT (m, d1, d2) (x, y, z, p, q, r, t) = true) := fits_more (hle) (Int.le_refl _) (Int.le_refl _)
  have HZ : Hid (fitsT (d0, d1, d2) (x, y, z, p, q, r, t) = true → fitsT (d0, d1, d2) (x, y, z, p, q, r, true) = true) := fun h => fits_free h
  have HY : Hid (t = true → fitsT (d2, d1, d0) (x, y, z, p, q, r, t) = fitsT (d0, d1, d2) (x, y, z, p, q, r, t)) := fun h => fits_02 (by simpa [turnT] using h)
  generalize fitsT (d0, d1, d2) (x, y, z, p, q, r, true) = Z at F4 HZ
  generalize fitsT (m, d1, d2) (x, y, z, p, q, r, t) = X at F2 HX
  generalize fitsT (d2, d1, d0) (x, y, z, p, q, r, t) = Y at F3 HY
  generalize fitsT (d0, d1, d2) (x, y, z, p, q, r, t) = is at F1 HX HY HZ
  obtain ⟨W, hW, hBW, b0, b1⟩ := two_start w #[I d0, I d1, I d2] (cells7 x y z p q r t) 33 29
  have HW : Hid ((w.alloc (.cells #[I d0, I d1, I d2] 33)).alloc (.cells (cells7 x y z p q r t) 29) = W) := hW
  clear hW hd hm hdm hdo hle hwr hd'
  go_enter Tryd.func6, Tryd.ntmps6
  go_wp2_with fail
  rw [HW.out]
  refine (talive_calls _ (HO.out.later hBW)).mono ?_
  rintro e w1 ⟨rfl, hT⟩
  obtain ⟨s0, s1, s2, s3, s4, s5, s6⟩ := (b1.later hT).seven
  obtain ⟨g0, g1, g2, gl⟩ := b0.threeB hT
  go_wp2_with fail
  refine (F1 _ (HO.out.later (then_below hBW hT))).mono ?_
  rintro e w2 ⟨rfl, hB⟩
  have hT := then_below hT hB
  clear s0 s1 s2 s3 s4 s5 s6 g0 g1 g2 gl hB F1
  obtain ⟨s0, s1, s2, s3, s4, s5, s6⟩ := (b1.later hT).seven
  obtain ⟨g0, g1, g2, gl⟩ := b0.threeB hT
  have sl := (b1.later hT).lt
  go_wp2_with fail
  have hT := then_alloc hT (.cells #[I m, I d1, I d2] 33)
  refine (F2 _ (HO.out.later (then_below hBW hT))).mono ?_
  rintro e w3 ⟨rfl, hB⟩
  have hT := then_below hT hB
  clear s0 s1 s2 s3 s4 s5 s6 g0 g1 g2 gl sl hB F2
  obtain ⟨s0, s1, s2, s3, s4, s5, s6⟩ := (b1.later hT).seven
  obtain ⟨g0, g1, g2, gl⟩ := b0.threeB hT
  have sl := (b1.later hT).lt
  go_wp2_with fail
  have hT := then_alloc hT (.cells #[I d2, I d1, I d0] 33)
  refine (F3 _ (HO.out.later (then_below hBW hT))).mono ?_
  rintro e w4 ⟨rfl, hB⟩
  have hT := then_below hT hB
  clear s0 s1 s2 s3 s4 s5 s6 g0 g1 g2 gl sl hB F3
  obtain ⟨s0, s1, s2, s3, s4, s5, s6⟩ := (b1.later hT).seven
  obtain ⟨g0, g1, g2, gl⟩ := b0.threeB hT
  have sl := (b1.later hT).lt
  go_wp2_with fail
  have hT := then_alloc hT (.cells (cells7 x y z p q r true) 29)
  refine (F4 _ (HO.out.later (then_below hBW hT))).mono ?_
  rintro e w5 ⟨rfl, hB⟩
  have hT := then_below hT hB
  clear s0 s1 s2 s3 s4 s5 s6 g0 g1 g2 gl sl hB F4
  obtain ⟨s0, s1, s2, s3, s4, s5, s6⟩ := (b1.later hT).seven
  have hT := then_below hBW hT
  clear b0 b1 hBW HW HO
  cases is
  · cases t
    · go_wp2
      go_ret
      exact ⟨rfl, hT⟩
    · have hY := HY.out rfl; subst hY
      go_wp2
      go_ret
      exact ⟨rfl, hT⟩
  · obtain rfl := HX.out rfl
    obtain rfl := HZ.out rfl
    cases t
    · go_wp2
      go_ret
      exact ⟨rfl, hT⟩
    · have hY := HY.out rfl; subst hY
      go_wp2
      go_ret
      exact ⟨rfl, hT⟩

end Go.Proofs.YtanhhlekbdhfmaaDoor

/-
  What the document's own answer for layer 2 (tidehallref02) gives: In, Has.
-/
import Derived.Test.YthakcjpipcmogaaRefTold
namespace Go.Proofs.Ythakcjpipcmogaa
open Go.RowKit Go.Shelf

attribute [local go_sem] Oper.semAt_some ext_const

/-- One of the first n steps on from b is p. -/
def thereS (r b p : Int) (n : Nat) : Bool := (List.range n).any fun j => (b + (j : Int)) % r == p
theorem thereS_succ (r b p : Int) (n : Nat) : thereS r b p (n + 1) = (thereS r b p n || (b + (n : Int)) % r == p) := by
  simp [thereS, List.range_succ, List.any_append]
theorem thereS_all {r b s p : Int} {n : Nat} (h : mayS r b s) (hp : 0 ≤ p ∧ p < r) (hn : (n : Int) = s) : thereS r b p n = hasS r b s p := by
  rw [Bool.eq_iff_iff, hasS_iff h hp, thereS, List.any_eq_true]
  constructor
  · rintro ⟨j, hj, he⟩
    exact ⟨j, by omega, by have := List.mem_range.1 hj; omega, by simpa using he⟩
  · rintro ⟨j, j0, j1, he⟩
    exact ⟨j.toNat, List.mem_range.2 (by omega), by rw [Int.toNat_of_nonneg j0]; simpa using he⟩

set_option maxRecDepth 100000 in
set_option maxHeartbeats 8000000 in
theorem rin_calls {d0 d1 d2 m : Int} {b : Bx} (w : World) (hm : mayD d0 d1 d2) (hb : mayB d0 d1 d2 b) (hn : 0 ≤ m ∧ m < d0 * d1 * d2) :
    Calls Try.prog 40 #[A3 d0 d1 d2, B6 b, I m] w fun e W' => e = .returned (.bool (hasB d0 d1 d2 b m)) ∧ Below w.heap.size w W' := by
  have hmx : Try.prog.follows .mixedOrders = true := by kernel_rfl
  have HN : Hid (0 ≤ m ∧ m < d0 * d1 * d2) := hn
  have HI : Hid (inD d0 d1 d2 (cx d0 m) (cy d0 d1 m) (cz d0 d1 m)) := inD_of_node hm hn
  have HB : Hid (mayB d0 d1 d2 b) := hb
  have hm' := hm
  obtain ⟨⟨g0, g1⟩, ⟨g2, g3⟩, g4, g5⟩ := hm'
  obtain ⟨⟨⟨s0, s1⟩, s2, s3⟩, ⟨⟨s4, s5⟩, s6, s7⟩, ⟨s8, s9⟩, s10, s11⟩ := hb
  have HW : Hid (∀ w : World, Calls Try.prog 53 #[A3 d0 d1 d2, I m] w fun e W' => e = .returned (A3 (cx d0 m) (cy d0 d1 m) (cz d0 d1 m)) ∧ Below w.heap.size w W') := fun w => rwhere_calls w hm hn
  clear hn
  unfold hasB
  generalize cx d0 m = p0 at HW HI ⊢
  generalize cy d0 d1 m = p1 at HW HI ⊢
  generalize cz d0 d1 m = p2 at HW HI ⊢
  go_enter Try.func40, Try.ntmps40
  go_wp2_with fail
  obtain ⟨W, hW, hB0, b0, b1⟩ := two_start w #[I d0, I d1, I d2] (C6 b) 28 24
  rw [hW]
  clear hW
  refine (HW.out _).mono ?_
  rintro e w1 ⟨rfl, hT⟩
  go_wp2_with fail
  have q0 := (b0.later hT).alloc (.cells #[I p0, I p1, I p2] 22)
  have q1 := (b1.later hT).alloc (.cells #[I p0, I p1, I p2] 22)
  have q2 := Blk.new w1 22 #[I p0, I p1, I p2]
  have hB0 := then_alloc (then_below hB0 hT) (.cells #[I p0, I p1, I p2] 22)
  generalize w1.alloc (.cells #[I p0, I p1, I p2] 22) = W1 at *
  go_loopw [8] (fun i wr => (i = .int .i64 0 ∨ (i = .int .i64 1 ∧ Hid (hasS d0 b.x b.a p0 = true)) ∨ (i = .int .i64 2 ∧ Hid (hasS d0 b.x b.a p0 = true ∧ hasS d1 b.y b.b p1 = true)) ∨ (i = .int .i64 3 ∧ Hid (hasS d0 b.x b.a p0 = true ∧ hasS d1 b.y b.b p1 = true ∧ hasS d2 b.z b.c p2 = true))) ∧ Below W1.heap.size W1 wr) (fun i _ => 3 - (intOf i).toNat)
  case atStart => exact ⟨.inl rfl, Below.refl _ _⟩
  case round =>
    obtain ⟨hi, hT1⟩ := hrel
    rcases hi with rfl | ⟨rfl, H⟩ | ⟨rfl, H⟩ | ⟨rfl, H⟩
    · go_wp2
      go_loopw [9, 10] (fun t k wr => ∃ j : Nat, (j : Int) ≤ b.a ∧ k = .int .i64 j ∧ t = .bool (thereS d0 b.x p0 j) ∧ Below W1.heap.size W1 wr) (fun _ k _ => b.a.toNat - (intOf k).toNat)
      case atStart => exact ⟨0, by omega, rfl, rfl, hT1⟩
      case round =>
        obtain ⟨j, hj, rfl, rfl, hT⟩ := hrel
        by_cases hlt : (j : Int) < b.a
        · have y0 := (q1.later hT).cell 3
          simp at y0
          have e0 := Ext.cell (q0.later hT) 0
          have e1 := Ext.cell (q1.later hT) 0
          have e2 := Ext.cell (q2.later hT) 0
          simp at e0 e1 e2
          cases hq : ((b.x + (j : Int)) % d0 == p0)
          · go_wp2
            refine wp_region_look hmx (by kernel_rfl) ?_
            repeat (go_big_quiet_step (fail))
            refine wpQuiet_nil ?_
            intro v
            go_wp2
            go_roundw
            case rel => exact ⟨j + 1, by omega, by go_num, by rw [thereS_succ, hq]; simp, then_below hT v.le⟩
            case measure => simp [intOf]; omega
          · go_wp2
            refine wp_region_look hmx (by kernel_rfl) ?_
            repeat (go_big_quiet_step (fail))
            refine wpQuiet_nil ?_
            intro v
            go_wp2
            go_roundw
            case rel => exact ⟨j + 1, by omega, by go_num, by rw [thereS_succ, hq]; simp, then_below hT v.le⟩
            case measure => simp [intOf]; omega
        · have y0 := (q1.later hT).cell 3
          simp at y0
          have E : thereS d0 b.x p0 j = hasS d0 b.x b.a p0 := thereS_all HB.out.1 HI.out.1 (by omega)
          rw [E]
          clear E
          cases hq : hasS d0 b.x b.a p0
          · go_wp2
            go_ret
            exact ⟨by simp, then_below hB0 hT⟩
          · go_wp2
            go_roundw
            case rel => exact ⟨.inr (.inl ⟨rfl, hq⟩), hT⟩
            case measure => simp [intOf]
    · go_wp2
      go_loopw [9, 10] (fun t k wr => ∃ j : Nat, (j : Int) ≤ b.b ∧ k = .int .i64 j ∧ t = .bool (thereS d1 b.y p1 j) ∧ Below W1.heap.size W1 wr) (fun _ k _ => b.b.toNat - (intOf k).toNat)
      case atStart => exact ⟨0, by omega, rfl, rfl, hT1⟩
      case round =>
        obtain ⟨j, hj, rfl, rfl, hT⟩ := hrel
        by_cases hlt : (j : Int) < b.b
        · have y0 := (q1.later hT).cell 4
          simp at y0
          have e0 := Ext.cell (q0.later hT) 1
          have e1 := Ext.cell (q1.later hT) 1
          have e2 := Ext.cell (q2.later hT) 1
          simp at e0 e1 e2
          cases hq : ((b.y + (j : Int)) % d1 == p1)
          · go_wp2
            refine wp_region_look hmx (by kernel_rfl) ?_
            repeat (go_big_quiet_step (fail))
            refine wpQuiet_nil ?_
            intro v
            go_wp2
            go_roundw
            case rel => exact ⟨j + 1, by omega, by go_num, by rw [thereS_succ, hq]; simp, then_below hT v.le⟩
            case measure => simp [intOf]; omega
          · go_wp2
            refine wp_region_look hmx (by kernel_rfl) ?_
            repeat (go_big_quiet_step (fail))
            refine wpQuiet_nil ?_
            intro v
            go_wp2
            go_roundw
            case rel => exact ⟨j + 1, by omega, by go_num, by rw [thereS_succ, hq]; simp, then_below hT v.le⟩
            case measure => simp [intOf]; omega
        · have y0 := (q1.later hT).cell 4
          simp at y0
          have E : thereS d1 b.y p1 j = hasS d1 b.y b.b p1 := thereS_all HB.out.2.1 HI.out.2.1 (by omega)
          rw [E]
          clear E
          cases hq : hasS d1 b.y b.b p1
          · go_wp2
            go_ret
            exact ⟨by simp, then_below hB0 hT⟩
          · go_wp2
            go_roundw
            case rel => exact ⟨.inr (.inr (.inl ⟨rfl, H.out, hq⟩)), hT⟩
            case measure => simp [intOf]
    · go_wp2
      go_loopw [9, 10] (fun t k wr => ∃ j : Nat, (j : Int) ≤ b.c ∧ k = .int .i64 j ∧ t = .bool (thereS d2 b.z p2 j) ∧ Below W1.heap.size W1 wr) (fun _ k _ => b.c.toNat - (intOf k).toNat)
      case atStart => exact ⟨0, by omega, rfl, rfl, hT1⟩
      case round =>
        obtain ⟨j, hj, rfl, rfl, hT⟩ := hrel
        by_cases hlt : (j : Int) < b.c
        · have y0 := (q1.later hT).cell 5
          simp at y0
          have e0 := Ext.cell (q0.later hT) 2
          have e1 := Ext.cell (q1.later hT) 2
          have e2 := Ext.cell (q2.later hT) 2
          simp at e0 e1 e2
          cases hq : ((b.z + (j : Int)) % d2 == p2)
          · go_wp2
            refine wp_region_look hmx (by kernel_rfl) ?_
            repeat (go_big_quiet_step (fail))
            refine wpQuiet_nil ?_
            intro v
            go_wp2
            go_roundw
            case rel => exact ⟨j + 1, by omega, by go_num, by rw [thereS_succ, hq]; simp, then_below hT v.le⟩
            case measure => simp [intOf]; omega
          · go_wp2
            refine wp_region_look hmx (by kernel_rfl) ?_
            repeat (go_big_quiet_step (fail))
            refine wpQuiet_nil ?_
            intro v
            go_wp2
            go_roundw
            case rel => exact ⟨j + 1, by omega, by go_num, by rw [thereS_succ, hq]; simp, then_below hT v.le⟩
            case measure => simp [intOf]; omega
        · have y0 := (q1.later hT).cell 5
          simp at y0
          have E : thereS d2 b.z p2 j = hasS d2 b.z b.c p2 := thereS_all HB.out.2.2 HI.out.2.2 (by omega)
          rw [E]
          clear E
          cases hq : hasS d2 b.z b.c p2
          · go_wp2
            go_ret
            exact ⟨by simp, then_below hB0 hT⟩
          · go_wp2
            go_roundw
            case rel => exact ⟨.inr (.inr (.inr ⟨rfl, H.out.1, H.out.2, hq⟩)), hT⟩
            case measure => simp [intOf]
    · go_wp2
      go_ret
      exact ⟨by simp [H.out.1, H.out.2.1, H.out.2.2], then_below hB0 hT1⟩

set_option maxHeartbeats 1000000 in
theorem rhas_err {d0 d1 d2 : Int} {b : Bx} (m : Int) (w : World) (he : (errB d0 d1 d2 b != 0) = true) :
    Calls Try.prog 20 #[A3 d0 d1 d2, B6 b, I m] w fun e W' => e = .returned (.tuple #[.bool false, I (errB d0 d1 d2 b)]) ∧ Below w.heap.size w W' := by
  go_enter Try.func20, Try.ntmps20
  go_wp2_with fail
  obtain ⟨W, hW, hB0, b0, b1⟩ := two_start w #[I d0, I d1, I d2] (C6 b) 28 24
  rw [hW]
  clear hW
  refine (rcheckb_calls d0 d1 d2 b _).mono ?_
  rintro e w1 ⟨rfl, hT⟩
  go_wp2
  go_ret2
  exact ⟨rfl, then_below hB0 hT⟩
set_option maxHeartbeats 1000000 in
theorem rhas_neg {d0 d1 d2 m : Int} {b : Bx} (w : World) (hm : mayD d0 d1 d2) (hb : mayB d0 d1 d2 b) (hn : m < 0) :
    Calls Try.prog 20 #[A3 d0 d1 d2, B6 b, I m] w fun e W' => e = .returned (.tuple #[.bool false, I 2]) ∧ Below w.heap.size w W' := by
  have H0 : Hid (errB d0 d1 d2 b = 0) := errB_ok hm hb
  go_enter Try.func20, Try.ntmps20
  go_wp2_with fail
  obtain ⟨W, hW, hB0, b0, b1⟩ := two_start w #[I d0, I d1, I d2] (C6 b) 28 24
  rw [hW]
  clear hW
  refine (rcheckb_calls d0 d1 d2 b _).mono ?_
  rintro e w1 ⟨rfl, hT⟩
  rw [H0.out]
  go_wp2
  go_ret2
  exact ⟨rfl, then_below hB0 hT⟩
set_option maxHeartbeats 1000000 in
theorem rhas_far {d0 d1 d2 m : Int} {b : Bx} (w : World) (hm : mayD d0 d1 d2) (hb : mayB d0 d1 d2 b) (h0 : 0 ≤ m) (hn : d0 * d1 * d2 ≤ m) :
    Calls Try.prog 20 #[A3 d0 d1 d2, B6 b, I m] w fun e W' => e = .returned (.tuple #[.bool false, I 2]) ∧ Below w.heap.size w W' := by
  have H0 : Hid (errB d0 d1 d2 b = 0) := errB_ok hm hb
  have HN : Hid (∀ w : World, Calls Try.prog 39 #[A3 d0 d1 d2] w fun e W' => e = .returned (I (d0 * d1 * d2)) ∧ Below w.heap.size w W') := fun w => rn_calls w hm
  generalize d0 * d1 * d2 = N at HN hn
  go_enter Try.func20, Try.ntmps20
  go_wp2_with fail
  obtain ⟨W, hW, hB0, b0, b1⟩ := two_start w #[I d0, I d1, I d2] (C6 b) 28 24
  rw [hW]
  clear hW
  refine (rcheckb_calls d0 d1 d2 b _).mono ?_
  rintro e w1 ⟨rfl, hT⟩
  rw [H0.out]
  obtain ⟨c0, c1, c2, hz⟩ := b0.three hT
  go_wp2_with fail
  refine (HN.out _).mono ?_
  rintro e w2 ⟨rfl, hB2⟩
  go_wp2
  go_ret2
  exact ⟨rfl, then_below hB0 (then_below hT hB2)⟩
set_option maxHeartbeats 1000000 in
theorem rhas_ok {d0 d1 d2 m : Int} {b : Bx} (w : World) (hm : mayD d0 d1 d2) (hb : mayB d0 d1 d2 b) (hn : 0 ≤ m ∧ m < d0 * d1 * d2) :
    Calls Try.prog 20 #[A3 d0 d1 d2, B6 b, I m] w fun e W' => e = .returned (.tuple #[.bool (hasB d0 d1 d2 b m), I 0]) ∧ Below w.heap.size w W' := by
  have H0 : Hid (errB d0 d1 d2 b = 0) := errB_ok hm hb
  have HI : Hid (∀ w : World, Calls Try.prog 40 #[A3 d0 d1 d2, B6 b, I m] w fun e W' => e = .returned (.bool (hasB d0 d1 d2 b m)) ∧ Below w.heap.size w W') := fun w => rin_calls w hm hb hn
  have HN : Hid (∀ w : World, Calls Try.prog 39 #[A3 d0 d1 d2] w fun e W' => e = .returned (I (d0 * d1 * d2)) ∧ Below w.heap.size w W') := fun w => rn_calls w hm
  generalize d0 * d1 * d2 = N at HN hn
  generalize hasB d0 d1 d2 b m = is at HI ⊢
  obtain ⟨n0, n1⟩ := hn
  go_enter Try.func20, Try.ntmps20
  go_wp2_with fail
  obtain ⟨W, hW, hB0, b0, b1⟩ := two_start w #[I d0, I d1, I d2] (C6 b) 28 24
  rw [hW]
  clear hW
  refine (rcheckb_calls d0 d1 d2 b _).mono ?_
  rintro e w1 ⟨rfl, hT⟩
  rw [H0.out]
  obtain ⟨c0, c1, c2, hz⟩ := b0.three hT
  go_wp2_with fail
  refine (HN.out _).mono ?_
  rintro e w2 ⟨rfl, hB2⟩
  have hT := then_below hT hB2
  clear c0 c1 c2 hz
  obtain ⟨c0, c1, c2, hz⟩ := b0.three hT
  obtain ⟨⟨k0, k1, k2⟩, ⟨k3, k4, k5⟩, hz1⟩ := b1.six hT
  go_wp2_with fail
  refine (HI.out _).mono ?_
  rintro e w3 ⟨rfl, hB3⟩
  go_wp2
  go_ret2
  exact ⟨rfl, then_below hB0 (then_below hT hB3)⟩

end Go.Proofs.Ythakcjpipcmogaa

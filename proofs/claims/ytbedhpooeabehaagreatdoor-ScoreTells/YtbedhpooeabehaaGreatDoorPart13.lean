/-
  What the document's own answer for layer 2 (tidehallref02) gives: In, Has.
-/
import Derived.Test.YtbedhpooeabehaaGreatDoorPart12
import Derived.Test.YtbedhpooeabehaaGreatDoorPart5
import Derived.Test.YtbedhpooeabehaaGreatDoorPart3
import Derived.Test.YtbedhpooeabehaaGreatDoorPart10
namespace Go.Proofs.YtbedhpooeabehaaGreatDoor
open Go.RowKit Go.Shelf

attribute [local go_sem] Oper.semAt_some ext_const

/-- One of the first n steps on from b is p. -/
def thereS (r b p : Int) (n : Nat) : Bool := (List.range n).any fun j => (b + (j : Int)) % r == p
theorem thereS_succ (r b p : Int) (n : Nat) : thereS r b p (n + 1) = (thereS r b p n || (b + (n : Int)) % r == p) := by
  simp [thereS, List.range_succ, List.any_append]
theorem thereS_all {r b s p : Int} {n : Nat} (h : mayS r b s) (hp : 0 ≤ p ∧ p < r) (hn : (n : Int) = s) : thereS r b p n = hasS r b s p := by
  rw [Bool.eq_iff_iff, hasS_iff h hp, thereS, List.any_eq_true]
  constructor
  · rintro ⟨j, hj, he⟩
    exact ⟨j, by omega, by have := List.mem_range.1 hj; omega, by simpa using he⟩
  · rintro ⟨j, j0, j1, he⟩
    exact ⟨j.toNat, List.mem_range.2 (by omega), by rw [Int.toNat_of_nonneg j0]; simpa using he⟩

set_option maxRecDepth 100000 in
set_option maxHeartbeats 8000000 in
theorem rin_calls {d0 d1 d2 m : Int} {b : Bx} (w : World) (hm : mayD d0 d1 d2) (hb : mayB d0 d1 d2 b) (hn : 0 ≤ m ∧ m < d0 * d1 * d2) :
    Calls Tryz.prog 73 #[A3 d0 d1 d2, B6 b, I m] w fun e W' => e = .returned (.bool (hasB d0 d1 d2 b m)) ∧ Below w.heap.size w W' := by
  have hmx : Tryz.prog.follows .mixedOrders = true := by kernel_rfl
  have HN : Hid (0 ≤ m ∧ m < d0 * d1 * d2) := hn
  have HI : Hid (inD d0 d1 d2 (cx d0 m) (cy d0 d1 m) (cz d0 d1 m)) := inD_of_node hm hn
  have HB : Hid (mayB d0 d1 d2 b) := hb
  have hm' := hm
  obtain ⟨⟨g0, g1⟩, ⟨g2, g3⟩, g4, g5⟩ := hm'
  obtain ⟨⟨⟨s0, s1⟩, s2, s3⟩, ⟨⟨s4, s5⟩, s6, s7⟩, ⟨s8, s9⟩, s10, s11⟩ := hb
  have HW : Hid (∀ w : World, Calls Tryz.prog 44 #[A3 d0 d1 d2, I m] w fun e W' => e = .returned (A3 (cx d0 m) (cy d0 d1 m) (cz d0 d1 m)) ∧ Below w.heap.size w W') := fun w => rwhere_calls w hm hn
  clear hn
  unfold hasB
  generalize cx d0 m = p0 at HW HI ⊢
  generalize cy d0 d1 m = p1 at HW HI ⊢
  generalize cz d0 d1 m = p2 at HW HI ⊢
  go_enter Tryz.func73, Tryz.ntmps73
  go_wp2_with fail
  obtain ⟨W, hW, hB0, b0, b1⟩ := two_start w #[I d0, I d1, I d2] (C6 b) 23 27
  rw [hW]
  clear hW
  refine (HW.out _).mono ?_
  rintro e w1 ⟨rfl, hT⟩
  go_wp2_with fail
  have q0 := (b0.later hT).alloc (.cells #[I p0, I p1, I p2] 22)
  have q1 := (b1.later hT).alloc (.cells #[I p0, I p1, I p2] 22)
  have q2 := Blk.new w1 22 #[I p0, I p1, I p2]
  have hB0 := then_alloc (then_below hB0 hT) (.cells #[I p0, I p1, I p2] 22)
  generalize w1.alloc (.cells #[I p0, I p1, I p2] 22) = W1 at *
  go_loopw [8] (fun i wr => (i = .int .i64 0 ∨ (i = .int .i64 1 ∧ Hid (hasS d0 b.x b.a p0 = true)) ∨ (i = .int .i64 2 ∧ Hid (hasS d0 b.x b.a p0 = true ∧ hasS d1 b.y b.b p1 = true)) ∨ (i = .int .i64 3 ∧ Hid (hasS d0 b.x b.a p0 = true ∧ hasS d1 b.y b.b p1 = true ∧ hasS d2 b.z b.c p2 = true))) ∧ Below W1.heap.size W1 wr) (fun i _ => 3 - (RowKit.intOf i).toNat)
  case atStart => exact ⟨.inl rfl, Below.refl _ _⟩
  case round =>
    obtain ⟨hi, hT1⟩ := hrel
    rcases hi with rfl | ⟨rfl, H⟩ | ⟨rfl, H⟩ | ⟨rfl, H⟩
    · go_wp2
      go_loopw [9, 10] (fun t k wr => ∃ j : Nat, (j : Int) ≤ b.a ∧ k = .int .i64 j ∧ t = .bool (thereS d0 b.x p0 j) ∧ Below W1.heap.size W1 wr) (fun _ k _ => b.a.toNat - (RowKit.intOf k).toNat)
      case atStart => exact ⟨0, by omega, rfl, rfl, hT1⟩
      case round =>
        obtain ⟨j, hj, rfl, rfl, hT⟩ := hrel
        by_cases hlt : (j : Int) < b.a
        · have y0 := (q1.later hT).cell 3
          simp at y0
          have e0 := Ext.cell (q0.later hT) 0
          have e1 := Ext.cell (q1.later hT) 0
          have e2 := Ext.cell (q2.later hT) 0
          simp at e0 e1 e2
          cases hq : ((b.x + (j : Int)) % d0 == p0)
          · go_wp2
            refine wp_region_look hmx (by kernel_rfl) ?_
            repeat (go_big_quiet_step (fail))
            refine wpQuiet_nil ?_
            intro v
            go_wp2
            go_roundw
            case rel => exact ⟨j + 1, by omega, by go_num, by rw [thereS_succ, hq]; simp, then_below hT v.le⟩
            case measure => simp [RowKit.intOf]; omega
          · go_wp2
            refine wp_region_look hmx (by kernel_rfl) ?_
            repeat (go_big_quiet_step (fail))
            refine wpQuiet_nil ?_
            intro v
            go_wp2
            go_roundw
            case rel => exact ⟨j + 1, by omega, by go_num, by rw [thereS_succ, hq]; simp, then_below hT v.le⟩
            case measure => simp [RowKit.intOf]; omega
        · have y0 := (q1.later hT).cell 3
          simp at y0
          have E : thereS d0 b.x p0 j = hasS d0 b.x b.a p0 := thereS_all HB.out.1 HI.out.1 (by omega)
          rw [E]
          clear E
          cases hq : hasS d0 b.x b.a p0
          · go_wp2
            go_ret
            exact ⟨by simp, then_below hB0 hT⟩
          · go_wp2
            go_roundw
            case rel => exact ⟨.inr (.inl ⟨rfl, hq⟩), hT⟩
            case measure => simp [RowKit.intOf]
    · go_wp2
      go_loopw [9, 10] (fun t k wr => ∃ j : Nat, (j : Int) ≤ b.b ∧ k = .int .i64 j ∧ t = .bool (thereS d1 b.y p1 j) ∧ Below W1.heap.size W1 wr) (fun _ k _ => b.b.toNat - (RowKit.intOf k).toNat)
      case atStart => exact ⟨0, by omega, rfl, rfl, hT1⟩
      case round =>
        obtain ⟨j, hj, rfl, rfl, hT⟩ := hrel
        by_cases hlt : (j : Int) < b.b
        · have y0 := (q1.later hT).cell 4
          simp at y0
          have e0 := Ext.cell (q0.later hT) 1
          have e1 := Ext.cell (q1.later hT) 1
          have e2 := Ext.cell (q2.later hT) 1
          simp at e0 e1 e2
          cases hq : ((b.y + (j : Int)) % d1 == p1)
          · go_wp2
            refine wp_region_look hmx (by kernel_rfl) ?_
            repeat (go_big_quiet_step (fail))
            refine wpQuiet_nil ?_
            intro v
            go_wp2
            go_roundw
            case rel => exact ⟨j + 1, by omega, by go_num, by rw [thereS_succ, hq]; simp, then_below hT v.le⟩
            case measure => simp [RowKit.intOf]; omega
          · go_wp2
            refine wp_region_look hmx (by kernel_rfl) ?_
            repeat (go_big_quiet_step (fail))
            refine wpQuiet_nil ?_
            intro v
            go_wp2
            go_roundw
            case rel => exact ⟨j + 1, by omega, by go_num, by rw [thereS_succ, hq]; simp, then_below hT v.le⟩
            case measure => simp [RowKit.intOf]; omega
        · have y0 := (q1.later hT).cell 4
          simp at y0
          have E : thereS d1 b.y p1 j = hasS d1 b.y b.b p1 := thereS_all HB.out.2.1 HI.out.2.1 (by omega)
          rw [E]
          clear E
          cases hq : hasS d1 b.y b.b p1
          · go_wp2
            go_ret
            exact ⟨by simp, then_below hB0 hT⟩
          · go_wp2
            go_roundw
            case rel => exact ⟨.inr (.inr (.inl ⟨rfl, H.out, hq⟩)), hT⟩
            case measure => simp [RowKit.intOf]
    · go_wp2
      go_loopw [9, 10] (fun t k wr => ∃ j : Nat, (j : Int) ≤ b.c ∧ k = .int .i64 j ∧ t = .bool (thereS d2 b.z p2 j) ∧ Below W1.heap.size W1 wr) (fun _ k _ => b.c.toNat - (RowKit.intOf k).toNat)
      case atStart => exact ⟨0, by omega, rfl, rfl, hT1⟩
      case round =>
        obtain ⟨j, hj, rfl, rfl, hT⟩ := hrel
        by_cases hlt : (j : Int) < b.c
        · have y0 := (q1.later hT).cell 5
          simp at y0
          have e0 := Ext.cell (q0.later hT) 2
          have e1 := Ext.cell (q1.later hT) 2
          have e2 := Ext.cell (q2.later hT) 2
          simp at e0 e1 e2
          cases hq : ((b.z + (j : Int)) % d2 == p2)
          · go_wp2
            refine wp_region_look hmx (by kernel_rfl) ?_
            repeat (go_big_quiet_step (fail))
            refine wpQuiet_nil ?_
            intro v
            go_wp2
            go_roundw
            case rel => exact ⟨j + 1, by omega, by go_num, by rw [thereS_succ, hq]; simp, then_below hT v.le⟩
            case measure => simp [RowKit.intOf]; omega
          · go_wp2
            refine wp_region_look hmx (by kernel_rfl) ?_
            repeat (go_big_quiet_step (fail))
            refine wpQuiet_nil ?_
            intro v
            go_wp2
            go_roundw
            case rel => exact ⟨j + 1, by omega, by go_num, by rw [thereS_succ, hq]; simp, then_below hT v.le⟩
            case measure => simp [RowKit.intOf]; omega
        · have y0 := (q1.later hT).cell 5
          simp at y0
          have E : thereS d2 b.z p2 j = hasS d2 b.z b.c p2 := thereS_all HB.out.2.2 HI.out.2.2 (by omega)
          rw [E]
          clear E
          cases hq : hasS d2 b.z b.c p2
          · go_wp2
            go_ret
            exact ⟨by simp, then_below hB0 hT⟩
          · go_wp2
            go_roundw
            case rel => exact ⟨.inr (.inr (.inr ⟨rfl, H.out.1, H.out.2, hq⟩)), hT⟩
            case measure => simp [RowKit.intOf]
    · go_wp2
      go_ret
      exact ⟨by simp [H.out.1, H.out.2.1, H.out.2.2], then_below hB0 hT1⟩

end Go.Proofs.YtbedhpooeabehaaGreatDoor

/-
  What the document's own answer for layer 2 (tidehallref02) gives: All, Nodes: a box's midplanes, rising, in new memory.
-/
namespace Go.Proofs.YtbedhpooeabehaaGreatDoor
open Go.RowKit Go.Shelf

attribute [local go_sem] Oper.semAt_some ext_const

/-- Of the first k midplanes those of a box. -/
def nodesTo (d0 d1 d2 : Int) (b : Bx) (k : Nat) : List Int := ((List.range k).filter (fun m : Nat => hasB d0 d1 d2 b m)).map (fun m : Nat => (m : Int))
def nodesB (d0 d1 d2 : Int) (b : Bx) : List Int := nodesTo d0 d1 d2 b (d0 * d1 * d2).toNat
theorem nodesTo_len (d0 d1 d2 : Int) (b : Bx) (k : Nat) : (nodesTo d0 d1 d2 b k).length ≤ k := by
  have := List.length_filter_le (fun m : Nat => hasB d0 d1 d2 b m) (List.range k)
  simpa [nodesTo] using this
theorem nodesTo_yes {d0 d1 d2 : Int} {b : Bx} {k : Nat} (h : hasB d0 d1 d2 b k = true) : nodesTo d0 d1 d2 b (k + 1) = nodesTo d0 d1 d2 b k ++ [(k : Int)] := by
  simp [nodesTo, List.range_succ, List.filter_append, h]
theorem nodesTo_no {d0 d1 d2 : Int} {b : Bx} {k : Nat} (h : hasB d0 d1 d2 b k = false) : nodesTo d0 d1 d2 b (k + 1) = nodesTo d0 d1 d2 b k := by
  simp [nodesTo, List.range_succ, List.filter_append, h]
theorem nodesB_len {d0 d1 d2 : Int} (hm : mayD d0 d1 d2) (b : Bx) : (nodesB d0 d1 d2 b).length ≤ 4096 := by
  have h1 := nodesTo_len d0 d1 d2 b (d0 * d1 * d2).toNat
  have h2 := N_bd hm
  unfold nodesB
  omega

set_option maxRecDepth 100000 in
set_option maxHeartbeats 2000000 in
theorem rall_calls {d0 d1 d2 : Int} {b : Bx} (w : World) (hm : mayD d0 d1 d2) (hb : mayB d0 d1 d2 b) :
    Calls Tryz.prog 57 #[A3 d0 d1 d2, B6 b] w fun e W' => ∃ v, e = .returned v ∧ Lst W' w.heap.size v (nodesB d0 d1 d2 b) ∧ Below w.heap.size w W' := by
  obtain ⟨N, hN⟩ : ∃ N, N = d0 * d1 * d2 := ⟨_, rfl⟩
  have HI : Hid (∀ (w : World) (m : Int), 0 ≤ m → m < N → Calls Tryz.prog 73 #[A3 d0 d1 d2, B6 b, I m] w fun e W' => e = .returned (.bool (hasB d0 d1 d2 b m)) ∧ Below w.heap.size w W') :=
    fun w m h0 h1 => rin_calls w hm hb ⟨h0, by omega⟩
  have HN : Hid (∀ w : World, Calls Tryz.prog 27 #[A3 d0 d1 d2] w fun e W' => e = .returned (I N) ∧ Below w.heap.size w W') := fun w => by rw [hN]; exact rn_calls w hm
  have hbd := N_bd hm
  rw [← hN] at hbd
  obtain ⟨hbd1, hbd2⟩ := hbd
  unfold nodesB
  rw [← hN]
  clear hN
  go_enter Tryz.func57, Tryz.ntmps57
  go_wp2
  obtain ⟨W, hW, hB0, b0, b1⟩ := two_start w #[I d0, I d1, I d2] (C6 b) 23 27
  rw [hW]
  clear hW
  go_loopw [5, 6] (fun v i wr => ∃ k : Nat, (k : Int) ≤ N ∧ i = .int .i64 k ∧ Lst wr W.heap.size v (nodesTo d0 d1 d2 b k) ∧ Below W.heap.size W wr) (fun _ i _ => N.toNat - (RowKit.intOf i).toNat)
  case atStart => exact ⟨0, by omega, rfl, Lst.nil _ _, Below.refl _ _⟩
  case round =>
    obtain ⟨k, hk, rfl, hL, hT⟩ := hrel
    obtain ⟨c0, c1, c2, hz⟩ := b0.three hT
    go_wp2_with fail
    refine (HN.out _).mono ?_
    rintro e w1 ⟨rfl, hB1⟩
    have hL := hL.later hB1
    have hT := then_below hT hB1
    clear c0 c1 c2 hz hB1
    by_cases hlt : (k : Int) < N
    · obtain ⟨c0, c1, c2, hz⟩ := b0.three hT
      obtain ⟨⟨k0, k1, k2⟩, ⟨k3, k4, k5⟩, hz1⟩ := b1.six hT
      go_wp2_with fail
      refine (HI.out _ k (by omega) hlt).mono ?_
      rintro e w2 ⟨rfl, hB2⟩
      have hL := hL.later hB2
      have hT := then_below hT hB2
      clear c0 c1 c2 hz k0 k1 k2 k3 k4 k5 hz1 hB2
      cases hq : hasB d0 d1 d2 b k
      · go_wp2
        go_roundw
        case rel => exact ⟨k + 1, by omega, by go_num, by rw [nodesTo_no hq]; exact hL, hT⟩
        case measure => simp [RowKit.intOf]; omega
      · go_wp2_with (at_builtin; refine wpList_app rfl _ _ rfl rfl rfl hL (by have := nodesTo_len d0 d1 d2 b k; omega) hT.size ?_; intro v' w3 hL3 hT3)
        have hT := hT.trans hT3
        rw [← nodesTo_yes hq] at hL3
        clear hT3 hL
        go_roundw
        case rel => exact ⟨k + 1, by omega, by go_num, hL3, hT⟩
        case measure => simp [RowKit.intOf]; omega
    · have E : N.toNat = k := by omega
      have hL' : Lst w1 w.heap.size _ (nodesTo d0 d1 d2 b N.toNat) := (E ▸ hL).weak hB0.size
      clear hL E
      go_wp2
      go_ret
      exact ⟨_, rfl, hL', then_below hB0 hT⟩

end Go.Proofs.YtbedhpooeabehaaGreatDoor

/-
  A box's midplanes, rising, are its coordinates gone through axis by axis, the first innermost.
-/
namespace Go.Proofs.YtbedhpooeabehaaGreatDoor

theorem range_mul (n m : Nat) : List.range (n * m) = (List.range m).flatMap fun q => (List.range n).map fun r => r + n * q := by
  induction m with
  | zero => simp
  | succ m ih =>
    rw [Nat.mul_succ, List.range_add, ih, List.range_succ, List.flatMap_append]
    congr 1
    simp [Nat.add_comm]
theorem flatMap_if {α β : Type} (p : α → Bool) (f : α → List β) : ∀ l : List α, (l.flatMap fun a => if p a then f a else []) = (l.filter p).flatMap f
  | [] => rfl
  | a :: l => by
    have ih := flatMap_if p f l
    cases h : p a <;> simp [h, ih]
theorem flatMap_same {α β : Type} {f g : α → List β} : ∀ {l : List α}, (∀ a ∈ l, f a = g a) → l.flatMap f = l.flatMap g
  | [], _ => rfl
  | a :: l, h => by
    simp only [List.flatMap_cons]
    rw [h a (by simp), flatMap_same (fun b hb => h b (by simp [hb]))]

theorem nodesB_flat {d0 d1 d2 : Int} {b : Bx} (hm : mayD d0 d1 d2) :
    (coordsS d2 b.z b.c).flatMap (fun z => (coordsS d1 b.y b.b).flatMap fun y => (coordsS d0 b.x b.a).map fun x => numD d0 d1 x y z) = nodesB d0 d1 d2 b := by
  have hm' := hm
  obtain ⟨h0, h1, h2⟩ := hm'
  unfold okD at h0 h1 h2
  obtain ⟨D0, rfl⟩ := Int.eq_ofNat_of_zero_le (show 0 ≤ d0 by omega)
  obtain ⟨D1, rfl⟩ := Int.eq_ofNat_of_zero_le (show 0 ≤ d1 by omega)
  obtain ⟨D2, rfl⟩ := Int.eq_ofNat_of_zero_le (show 0 ≤ d2 by omega)
  have hN : ((D0 : Int) * D1 * D2).toNat = D0 * (D1 * D2) := by
    have h : ((D0 : Int) * D1 * D2) = ((D0 * (D1 * D2) : Nat) : Int) := by push_cast; rw [Int.mul_assoc]
    rw [h, Int.toNat_natCast]
  have hR : List.range (D0 * (D1 * D2)) = (List.range D2).flatMap fun z => (List.range D1).flatMap fun y => (List.range D0).map fun x => x + D0 * (y + D1 * z) := by
    rw [range_mul D0, range_mul D1, List.flatMap_assoc]
    simp only [List.flatMap_map]
  unfold nodesB nodesTo
  rw [hN, hR, List.filter_flatMap, List.map_flatMap]
  unfold coordsS coordsTo
  simp only [Int.toNat_natCast]
  rw [List.flatMap_map, ← flatMap_if]
  refine flatMap_same fun z hz => ?_
  have hz := List.mem_range.1 hz
  rw [List.filter_flatMap, List.map_flatMap]
  cases hcz : hasS D2 b.z b.c z
  · simp only [Bool.false_eq_true, if_false]
    symm
    rw [List.flatMap_eq_nil_iff]
    intro y hy
    have hy := List.mem_range.1 hy
    rw [List.map_eq_nil_iff, List.filter_eq_nil_iff]
    intro m hmm
    obtain ⟨x, hx, rfl⟩ := List.mem_map.1 hmm
    have hx := List.mem_range.1 hx
    have := hasB_num (b := b) hm (p := x) (q := y) (r := z) ⟨by omega, by omega, by omega⟩
    rw [show (((x + D0 * (y + D1 * z) : Nat)) : Int) = numD D0 D1 x y z by unfold numD; push_cast; rfl, this, hcz]
    simp
  · simp only [if_true]
    rw [List.flatMap_map, ← flatMap_if]
    refine flatMap_same fun y hy => ?_
    have hy := List.mem_range.1 hy
    have hnum : ∀ x, x < D0 → hasB D0 D1 D2 b ((x + D0 * (y + D1 * z) : Nat) : Int) = (hasS D0 b.x b.a x && hasS D1 b.y b.b y) := by
      intro x hx
      have := hasB_num (b := b) hm (p := x) (q := y) (r := z) ⟨by omega, by omega, by omega⟩
      rw [show (((x + D0 * (y + D1 * z) : Nat)) : Int) = numD D0 D1 x y z by unfold numD; push_cast; rfl, this, hcz, Bool.and_true]
    rw [List.filter_map, List.map_map, List.map_map]
    cases hcy : hasS D1 b.y b.b y
    · simp only [Bool.false_eq_true, if_false]
      symm
      rw [List.map_eq_nil_iff, List.filter_eq_nil_iff]
      intro x hx
      rw [Function.comp, hnum x (List.mem_range.1 hx), hcy]
      simp
    · simp only [if_true]
      rw [show (List.range D0).filter ((fun m : Nat => hasB D0 D1 D2 b m) ∘ fun x => x + D0 * (y + D1 * z)) = (List.range D0).filter (fun j : Nat => hasS D0 b.x b.a j) from List.filter_congr fun x hx => by
        rw [Function.comp, hnum x (List.mem_range.1 hx), hcy, Bool.and_true]]
      refine List.map_congr_left fun x _ => ?_
      simp [Function.comp, numD]

theorem coordsS_get {r b s : Int} (hr : 0 ≤ r) {k : Nat} (hk : k < (coordsS r b s).length) : 0 ≤ (coordsS r b s).getD k 0 ∧ (coordsS r b s).getD k 0 < r := by
  have hmem : (coordsS r b s).getD k 0 ∈ coordsS r b s := by
    rw [show (coordsS r b s).getD k 0 = (coordsS r b s)[k] by simp [hk]]; exact List.getElem_mem hk
  generalize (coordsS r b s).getD k 0 = x at hmem
  simp only [coordsS, coordsTo, List.mem_map, List.mem_filter, List.mem_range] at hmem
  obtain ⟨j, ⟨h1, _⟩, rfl⟩ := hmem
  omega
theorem coordsS_len {r b s : Int} (hr : r ≤ 16) : (coordsS r b s).length ≤ 16 := by
  have := coordsTo_len r b s r.toNat
  unfold coordsS
  omega

section
variable (d0 d1 : Int) (X Y Z T : List Int)
def rowG (z y : Int) : List Int := X.map fun x => numD d0 d1 x y z
def rowF (z : Int) : List Int := Y.flatMap (rowG d0 d1 X z)
/-- What is gathered, and what is still to come: in the outer loop, the middle one, the inner one. -/
def eqO (L : List Int) (i : Nat) : Prop := L ++ (Z.drop i).flatMap (rowF d0 d1 X Y) = T
def eqM (L : List Int) (i j : Nat) : Prop := L ++ ((Y.drop j).flatMap (rowG d0 d1 X (Z.getD i 0)) ++ (Z.drop (i + 1)).flatMap (rowF d0 d1 X Y)) = T
def eqI (L : List Int) (i j k : Nat) : Prop :=
  L ++ ((X.drop k).map (fun x => numD d0 d1 x (Y.getD j 0) (Z.getD i 0)) ++ ((Y.drop (j + 1)).flatMap (rowG d0 d1 X (Z.getD i 0)) ++ (Z.drop (i + 1)).flatMap (rowF d0 d1 X Y))) = T
theorem drop_at {l : List Int} {i : Nat} (h : i < l.length) : l.drop i = l.getD i 0 :: l.drop (i + 1) := by
  rw [List.drop_eq_getElem_cons h]; simp [h]
variable {d0 d1 X Y Z T} {L : List Int} {i j k : Nat}
theorem eqO_in (hi : i < Z.length) (h : eqO d0 d1 X Y Z T L i) : eqM d0 d1 X Y Z T L i 0 := by
  unfold eqO at h; unfold eqM
  rw [drop_at hi, List.flatMap_cons] at h
  rw [List.drop_zero]; exact h
theorem eqM_in (hj : j < Y.length) (h : eqM d0 d1 X Y Z T L i j) : eqI d0 d1 X Y Z T L i j 0 := by
  unfold eqM at h; unfold eqI
  rw [drop_at hj, List.flatMap_cons, List.append_assoc] at h
  rw [List.drop_zero]; exact h
theorem eqI_step (hk : k < X.length) (h : eqI d0 d1 X Y Z T L i j k) : eqI d0 d1 X Y Z T (L ++ [numD d0 d1 (X.getD k 0) (Y.getD j 0) (Z.getD i 0)]) i j (k + 1) := by
  unfold eqI at h ⊢
  rw [drop_at hk, List.map_cons] at h
  rw [← h]
  simp
theorem eqI_out (hk : X.length ≤ k) (h : eqI d0 d1 X Y Z T L i j k) : eqM d0 d1 X Y Z T L i (j + 1) := by
  unfold eqI at h; unfold eqM
  rw [List.drop_of_length_le hk] at h; exact h
theorem eqM_out (hj : Y.length ≤ j) (h : eqM d0 d1 X Y Z T L i j) : eqO d0 d1 X Y Z T L (i + 1) := by
  unfold eqM at h; unfold eqO
  rw [List.drop_of_length_le hj] at h; exact h
theorem eqO_out (hi : Z.length ≤ i) (h : eqO d0 d1 X Y Z T L i) : L = T := by
  unfold eqO at h
  rw [List.drop_of_length_le hi] at h; simpa using h
theorem eqI_len (h : eqI d0 d1 X Y Z T L i j k) : L.length ≤ T.length := by
  have := congrArg List.length h
  simp only [List.length_append] at this
  omega
end

end Go.Proofs.YtbedhpooeabehaaGreatDoor

/-
  Plain arithmetic of places: how many midplanes a box has, and how many cables a place takes. No program is named here.
-/
namespace Go.Proofs.YtbedhpooeabehaaGreatDoor
open Go.RowKit

theorem flatP_len {α β : Type} {f : α → List β} {c : Nat} : ∀ {l : List α}, (∀ a ∈ l, (f a).length = c) → (l.flatMap f).length = l.length * c
  | [], _ => by simp
  | a :: l, h => by
    rw [List.flatMap_cons, List.length_append, h a (by simp), flatP_len (fun b hb => h b (by simp [hb])), List.length_cons, Nat.add_mul, Nat.one_mul, Nat.add_comm]

theorem coords_count {r b s : Int} (hr : r ≤ 16) (hb : 0 ≤ b ∧ b < r) (hs : 0 ≤ s ∧ s ≤ r) : (coordsS r b s).length = s.toNat := by
  obtain ⟨R, rfl⟩ := Int.eq_ofNat_of_zero_le (show 0 ≤ r by omega)
  obtain ⟨B, rfl⟩ := Int.eq_ofNat_of_zero_le hb.1
  obtain ⟨S, rfl⟩ := Int.eq_ofNat_of_zero_le hs.1
  unfold coordsS coordsTo
  rw [List.length_map, Int.toNat_natCast, Int.toNat_natCast]
  exact side_count R (by omega) B (by omega) S (by omega)

/-- A side that may be, or has nothing. -/
def sideOk (r b s : Int) : Prop := (0 ≤ b ∧ b < r) ∧ (0 ≤ s ∧ s ≤ r)
theorem nodes_count {d0 d1 d2 : Int} {b : Bx} (h : mayD d0 d1 d2) (hs : ∀ k, sideOk (dimAt d0 d1 d2 k) (bAt b k) (sAt b k)) : ((nodesB d0 d1 d2 b).length : Int) = b.a * b.b * b.c := by
  have h' := h
  obtain ⟨⟨_, u0⟩, ⟨_, u1⟩, _, u2⟩ := h'
  have s0 := hs 0
  have s1 := hs 1
  have s2 := hs 2
  have c0 := coords_count (r := d0) (b := b.x) (s := b.a) u0 s0.1 s0.2
  have c1 := coords_count (r := d1) (b := b.y) (s := b.b) u1 s1.1 s1.2
  have c2 := coords_count (r := d2) (b := b.z) (s := b.c) u2 s2.1 s2.2
  rw [← nodesB_flat h, flatP_len (c := (coordsS d1 b.y b.b).length * (coordsS d0 b.x b.a).length) (fun z _ => flatP_len (fun y _ => by rw [List.length_map])), c0, c1, c2]
  have e0 : (b.a.toNat : Int) = b.a := Int.toNat_of_nonneg s0.2.1
  have e1 : (b.b.toNat : Int) = b.b := Int.toNat_of_nonneg s1.2.1
  have e2 : (b.c.toNat : Int) = b.c := Int.toNat_of_nonneg s2.2.1
  rw [Int.natCast_mul, Int.natCast_mul, e0, e1, e2, Int.mul_comm b.c, Int.mul_comm b.b]

/-- The box of those midplanes from which the cables go that a place takes along an axis. -/
def boxK (d0 d1 d2 : Int) (b : Bx) (t0 t1 t2 : Bool) (k : Fin 3) : Bx := upB b (runS (dimAt d0 d1 d2 k) (sAt b k) (tK t0 t1 t2 k)) k
/-- A cable is taken. -/
def cabB (d0 d1 d2 : Int) (b : Bx) (t0 t1 t2 : Bool) (n : Int) : Bool :=
  let N := d0 * d1 * d2
  if n < N then hasB d0 d1 d2 (boxK d0 d1 d2 b t0 t1 t2 0) n else if n < 2 * N then hasB d0 d1 d2 (boxK d0 d1 d2 b t0 t1 t2 1) (n - N) else hasB d0 d1 d2 (boxK d0 d1 d2 b t0 t1 t2 2) (n - 2 * N)
theorem cabB_at {d0 d1 d2 o : Int} {b : Bx} {t0 t1 t2 : Bool} (ho : 0 ≤ o ∧ o < d0 * d1 * d2) (k : Fin 3) : cabB d0 d1 d2 b t0 t1 t2 (cabW d0 d1 d2 k o) = hasB d0 d1 d2 (boxK d0 d1 d2 b t0 t1 t2 k) o := by
  rcases fin3 k with rfl | rfl | rfl
  · have e : cabW d0 d1 d2 0 o = o := by unfold cabW; simp only [axI]; omega
    rw [e]
    unfold cabB
    rw [if_pos ho.2]
  · have e : cabW d0 d1 d2 1 o = d0 * d1 * d2 + o := by unfold cabW; simp only [axI]; omega
    rw [e]
    unfold cabB
    rw [if_neg (by omega), if_pos (by omega), show d0 * d1 * d2 + o - d0 * d1 * d2 = o by omega]
  · have e : cabW d0 d1 d2 2 o = 2 * (d0 * d1 * d2) + o := by unfold cabW; simp only [axI]
    rw [e]
    unfold cabB
    rw [if_neg (by omega), if_neg (by omega), show 2 * (d0 * d1 * d2) + o - 2 * (d0 * d1 * d2) = o by omega]

theorem nodesB_filter (d0 d1 d2 : Int) (b : Bx) : (nodesB d0 d1 d2 b).length = ((List.range (d0 * d1 * d2).toNat).filter fun m : Nat => hasB d0 d1 d2 b (m : Int)).length := by
  unfold nodesB nodesTo
  rw [List.length_map]
theorem filter_shift {N a : Nat} {p q : Nat → Bool} (h : ∀ o, o < N → p (a + o) = q o) : (((List.range N).map (a + ·)).filter p).length = ((List.range N).filter q).length := by
  rw [List.filter_map, List.length_map]
  congr 1
  exact List.filter_congr fun o ho => h o (List.mem_range.1 ho)
/-- How many cables a place takes. -/
theorem cab_count {d0 d1 d2 : Int} {b : Bx} {t0 t1 t2 : Bool} (h : mayD d0 d1 d2) :
    ((List.range (3 * (d0 * d1 * d2)).toNat).filter fun n : Nat => cabB d0 d1 d2 b t0 t1 t2 (n : Int)).length =
      (nodesB d0 d1 d2 (boxK d0 d1 d2 b t0 t1 t2 0)).length + (nodesB d0 d1 d2 (boxK d0 d1 d2 b t0 t1 t2 1)).length + (nodesB d0 d1 d2 (boxK d0 d1 d2 b t0 t1 t2 2)).length := by
  have hN := N_bd h
  have key : ∀ (k : Fin 3) (o : Int), 0 ≤ o ∧ o < d0 * d1 * d2 → cabB d0 d1 d2 b t0 t1 t2 (axI k * (d0 * d1 * d2) + o) = hasB d0 d1 d2 (boxK d0 d1 d2 b t0 t1 t2 k) o := fun k o ho => cabB_at ho k
  rw [nodesB_filter, nodesB_filter, nodesB_filter]
  obtain ⟨N, hNN⟩ := Int.eq_ofNat_of_zero_le (show 0 ≤ d0 * d1 * d2 by omega)
  rw [hNN] at key ⊢
  have e3 : (3 * ((N : Nat) : Int)).toNat = N + N + N := by omega
  rw [e3, Int.toNat_natCast, List.range_add, List.range_add, List.filter_append, List.filter_append, List.length_append, List.length_append]
  congr 1
  · congr 1
    · congr 1
      refine List.filter_congr fun o ho => ?_
      have ho := List.mem_range.1 ho
      have := key 0 (o : Int) (by omega)
      simp only [axI] at this
      rw [← this]
      congr 1
      omega
    · refine filter_shift fun o ho => ?_
      have := key 1 (o : Int) (by omega)
      simp only [axI] at this
      rw [← this]
      congr 1
      push_cast
      omega
  · refine filter_shift fun o ho => ?_
    have := key 2 (o : Int) (by omega)
    simp only [axI] at this
    rw [← this]
    congr 1
    push_cast
    omega

end Go.Proofs.YtbedhpooeabehaaGreatDoor

/-
  Plain arithmetic of places: which midplanes a place passes; places whose boxes do not meet. No program is named here.
-/
namespace Go.Proofs.YtbedhpooeabehaaGreatDoor
open Go.RowKit

/-- A place takes the cable from a midplane along an axis. -/
def takes (d0 d1 d2 : Int) (b : Bx) (t0 t1 t2 : Bool) (k : Fin 3) (m : Int) : Bool := hasB d0 d1 d2 (boxK d0 d1 d2 b t0 t1 t2 k) m
/-- It passes a midplane. -/
def passB (d0 d1 d2 : Int) (b : Bx) (t0 t1 t2 : Bool) (m : Int) : Prop :=
  hasB d0 d1 d2 b m = false ∧ ∃ k, 1 < dimAt d0 d1 d2 k ∧ (takes d0 d1 d2 b t0 t1 t2 k m = true ∨ takes d0 d1 d2 b t0 t1 t2 k (onD d0 d1 d2 m k (-1)) = true)
/-- It is a torus along an axis and not as long as the dimension. -/
def opens (d0 d1 d2 : Int) (b : Bx) (t0 t1 t2 : Bool) (k : Fin 3) : Prop := tK t0 t1 t2 k = true ∧ sAt b k < dimAt d0 d1 d2 k

theorem hasS_whole {r b c : Int} (hb : 0 ≤ b ∧ b < r) (hc : 0 ≤ c ∧ c < r) : hasS r b r c = true := by
  have := aft_bd hb hc
  simp only [hasS, decide_eq_true_eq]
  omega

theorem torus_takes {d0 d1 d2 m : Int} {b : Bx} {t0 t1 t2 : Bool} (h : mayD d0 d1 d2) (hb : mayB d0 d1 d2 b) (hm : 0 ≤ m ∧ m < d0 * d1 * d2) {k : Fin 3} (ht : tK t0 t1 t2 k = true) :
    takes d0 d1 d2 b t0 t1 t2 k m = true ↔ ∀ j, j ≠ k → hasS (dimAt d0 d1 d2 j) (bAt b j) (sAt b j) (coK d0 d1 m j) = true := by
  unfold takes boxK
  rw [upB_has, ht]
  have e : runS (dimAt d0 d1 d2 k) (sAt b k) true = dimAt d0 d1 d2 k := by simp [runS]
  rw [e]
  exact ⟨fun h => h.2, fun h' => ⟨hasS_whole (mayB_at hb k).2 (co_bd h hm k), h'⟩⟩
theorem mesh_takes {d0 d1 d2 m : Int} {b : Bx} {t0 t1 t2 : Bool} (h : mayD d0 d1 d2) (hb : mayB d0 d1 d2 b) (hm : 0 ≤ m ∧ m < d0 * d1 * d2) {k : Fin 3} (ht : tK t0 t1 t2 k = false)
    (hu : takes d0 d1 d2 b t0 t1 t2 k m = true) : hasB d0 d1 d2 b m = true ∧ hasB d0 d1 d2 b (onD d0 d1 d2 m k 1) = true := by
  unfold takes boxK at hu
  rw [ht] at hu
  exact mesh_ends h hb hm k hu

theorem on_back {d0 d1 d2 m : Int} (h : mayD d0 d1 d2) (hm : 0 ≤ m ∧ m < d0 * d1 * d2) (k : Fin 3) : onD d0 d1 d2 (onD d0 d1 d2 m k (-1)) k 1 = m := by
  rw [on_on h hm, show (-1 : Int) + 1 = 0 by omega]
  exact on_round h hm k 0 (.inl rfl)

/-- Where each axis along which it is a torus is taken whole, it passes none. -/
theorem pass_none {d0 d1 d2 m : Int} {b : Bx} {t0 t1 t2 : Bool} (h : mayD d0 d1 d2) (hb : mayB d0 d1 d2 b) (hm : 0 ≤ m ∧ m < d0 * d1 * d2) (ho : ∀ k, ¬ opens d0 d1 d2 b t0 t1 t2 k) : ¬ passB d0 d1 d2 b t0 t1 t2 m := by
  rintro ⟨hno, k, _, ht⟩
  have hp := on_node h hm k (-1)
  have key : hasB d0 d1 d2 b m = true := by
    cases hk : tK t0 t1 t2 k
    · rcases ht with ht | ht
      · exact (mesh_takes h hb hm hk ht).1
      · have := (mesh_takes h hb hp hk ht).2
        rwa [on_back h hm k] at this
    · have hs : sAt b k = dimAt d0 d1 d2 k := by
        have h1 := (mayB_at hb k).1.2
        have h2 : ¬ sAt b k < dimAt d0 d1 d2 k := fun hlt => ho k ⟨hk, hlt⟩
        omega
      have hall : ∀ j, j ≠ k → hasS (dimAt d0 d1 d2 j) (bAt b j) (sAt b j) (coK d0 d1 m j) = true := by
        rcases ht with ht | ht
        · exact (torus_takes h hb hm hk).1 ht
        · intro j hj
          have := (torus_takes h hb hp hk).1 ht j hj
          rwa [co_on h hm k (-1) j, if_neg hj] at this
      rw [hasB_iff]
      intro j
      by_cases hj : j = k
      · subst hj
        rw [hs]
        exact hasS_whole (mayB_at hb j).2 (co_bd h hm j)
      · exact hall j hj
  rw [key] at hno
  cases hno

/-- The midplane at which a box begins. -/
def baseN (d0 d1 : Int) (b : Bx) : Int := numD d0 d1 b.x b.y b.z
theorem base_node {d0 d1 d2 : Int} {b : Bx} (h : mayD d0 d1 d2) (hb : mayB d0 d1 d2 b) : (0 ≤ baseN d0 d1 b ∧ baseN d0 d1 b < d0 * d1 * d2) ∧ ∀ k, coK d0 d1 (baseN d0 d1 b) k = bAt b k := by
  obtain ⟨b0, b1, b2⟩ := hb
  obtain ⟨hn, hx, hy, hz⟩ := node_of_in h (p0 := b.x) (p1 := b.y) (p2 := b.z) ⟨b0.2, b1.2, b2.2⟩
  refine ⟨hn, fun k => ?_⟩
  rcases fin3 k with rfl | rfl | rfl
  · exact hx
  · exact hy
  · exact hz
theorem base_has {d0 d1 d2 : Int} {b : Bx} (h : mayD d0 d1 d2) (hb : mayB d0 d1 d2 b) : hasB d0 d1 d2 b (baseN d0 d1 b) = true := by
  rw [hasB_iff]
  intro k
  rw [(base_node h hb).2 k]
  exact hasS_base (mayB_at hb k)

/-- Else it passes one. -/
theorem pass_some {d0 d1 d2 : Int} {b : Bx} {t0 t1 t2 : Bool} (h : mayD d0 d1 d2) (hb : mayB d0 d1 d2 b) {k : Fin 3} (ho : opens d0 d1 d2 b t0 t1 t2 k) : ∃ m, (0 ≤ m ∧ m < d0 * d1 * d2) ∧ passB d0 d1 d2 b t0 t1 t2 m := by
  obtain ⟨ht, hlt⟩ := ho
  obtain ⟨hn, hc⟩ := base_node h hb
  have hm := on_node h hn k (sAt b k)
  have hco := co_on h hn k (sAt b k)
  have hs := (mayB_at hb k).1
  have hbk := (mayB_at hb k).2
  refine ⟨onD d0 d1 d2 (baseN d0 d1 b) k (sAt b k), hm, ?_, k, by omega, .inl ?_⟩
  · cases hh : hasB d0 d1 d2 b (onD d0 d1 d2 (baseN d0 d1 b) k (sAt b k))
    · rfl
    · have := hasB_iff.1 hh k
      rw [hco k, if_pos rfl, hc k, on_rem hbk ⟨by omega, hlt⟩] at this
      unfold hasS at this
      have hx := of_decide_eq_true this
      clear this
      unfold aft at hx
      split at hx <;> split at hx <;> omega
  · rw [torus_takes h hb hm ht]
    intro j hj
    rw [hco j, if_neg hj, hc j]
    exact hasS_base (mayB_at hb j)

/-- Places whose boxes do not meet have, as meshes, no cable in common. -/
theorem mesh_apart {d0 d1 d2 m : Int} {a b : Bx} (h : mayD d0 d1 d2) (ha : mayB d0 d1 d2 a) (hb : mayB d0 d1 d2 b) (hm : 0 ≤ m ∧ m < d0 * d1 * d2) (k : Fin 3)
    (u : takes d0 d1 d2 a false false false k m = true) (v : takes d0 d1 d2 b false false false k m = true) : meetB d0 d1 d2 a b = true := by
  have hk : tK false false false k = false := by rcases fin3 k with rfl | rfl | rfl <;> rfl
  exact (meetB_iff h ha hb).2 ⟨m, hm, (mesh_takes h ha hm hk u).1, (mesh_takes h hb hm hk v).1⟩

end Go.Proofs.YtbedhpooeabehaaGreatDoor

/-
  Plain lists: what wire.line hands out, sorted, are the cables of those midplanes, rising. No program is named here.
-/
namespace Go.Proofs.YtbedhpooeabehaaGreatDoor
open Go.RowKit

theorem seqW_take (d0 d1 d2 m : Int) (k : Fin 3) {n n' : Nat} (h : n ≤ n') : (seqW d0 d1 d2 m k n').take n = seqW d0 d1 d2 m k n := by
  have := List.prefix_iff_eq_take.1 (seqW_pre d0 d1 d2 m k h)
  rw [seqW_len] at this
  exact this.symm

theorem sort_rise {l l' : List Int} (h : l.Perm l') (h' : l'.Pairwise (· < ·)) : (l.mergeSort fun x y => decide (x ≤ y)) = l' := by
  have tr : ∀ a b c : Int, decide (a ≤ b) = true → decide (b ≤ c) = true → decide (a ≤ c) = true := fun a b c h1 h2 => by simp only [decide_eq_true_eq] at *; omega
  have to : ∀ a b : Int, (decide (a ≤ b) || decide (b ≤ a)) = true := fun a b => by simp only [Bool.or_eq_true, decide_eq_true_eq]; omega
  refine List.Perm.eq_of_pairwise (le := fun a b : Int => decide (a ≤ b) = true) (fun a b _ _ h1 h2 => ?_) (List.pairwise_mergeSort tr to l) (h'.imp fun hab => ?_) ((List.mergeSort_perm l _).trans h)
  · simp only [decide_eq_true_eq] at h1 h2; omega
  · simp only [decide_eq_true_eq]; omega

theorem seq_perm {d0 d1 d2 m : Int} (h : mayD d0 d1 d2) (hm : 0 ≤ m ∧ m < d0 * d1 * d2) (k : Fin 3) {mo : Nat} (hk : (mo : Int) ≤ dimAt d0 d1 d2 k) (h1 : 1 < dimAt d0 d1 d2 k) : (seqW d0 d1 d2 m k mo).Perm (cablesW d0 d1 d2 m k mo) := by
  have hn1 : (seqW d0 d1 d2 m k mo).Nodup := by
    refine List.pairwise_map.2 ((List.pairwise_lt_range (n := mo)).imp_of_mem fun {a b} ha hb hab e => ?_)
    have ha' := List.mem_range.1 ha
    have hb' := List.mem_range.1 hb
    have := on_inj h hm k (a := (a : Int)) (b := (b : Int)) (by omega) (by omega) (cab_inj e)
    omega
  have hn2 : (cablesW d0 d1 d2 m k mo).Nodup := (cables_rise d0 d1 d2 m k mo).imp fun hab e => by omega
  refine (List.perm_ext_iff_of_nodup hn1 hn2).2 fun x => ?_
  rw [cables_mem]
  constructor
  · intro hx
    obtain ⟨i, hi, rfl⟩ := List.mem_map.1 hx
    have hi' := List.mem_range.1 hi
    have hb := on_node h hm k (i : Int)
    refine ⟨h1, (onD d0 d1 d2 m k (i : Int)).toNat, nodes_mem.2 ⟨by omega, i, hi', by omega⟩, ?_⟩
    rw [Int.toNat_of_nonneg hb.1]
  · rintro ⟨_, o, ho, rfl⟩
    obtain ⟨_, i, hi, e⟩ := nodes_mem.1 ho
    exact List.mem_map.2 ⟨i, List.mem_range.2 hi, by rw [e]⟩

/-- What is handed out, at most so many, sorted. -/
theorem sort_out {d0 d1 d2 m : Int} (h : mayD d0 d1 d2) (hm : 0 ≤ m ∧ m < d0 * d1 * d2) (k : Fin 3) {mo : Nat} (hk : (mo : Int) ≤ dimAt d0 d1 d2 k) :
    (((outW d0 d1 d2 m k).take mo).mergeSort fun x y => decide (x ≤ y)) = cablesW d0 d1 d2 m k mo := by
  unfold outW
  split
  · rename_i h1
    rw [seqW_take _ _ _ _ _ (by omega)]
    exact sort_rise (seq_perm h hm k hk h1) (cables_rise d0 d1 d2 m k mo)
  · rename_i h1
    unfold cablesW
    rw [if_neg h1]
    simp

end Go.Proofs.YtbedhpooeabehaaGreatDoor

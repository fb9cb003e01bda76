/-
  What the document's own answer for layer 6 (tidehallref06) gives: May, Check. And a set of numbers, as tidehallref03.From makes it.
-/
import Derived.Test.YtbedhpooeabehaaGreatDoorPart17
import Derived.Test.YtbedhpooeabehaaGreatDoorPart12
import Derived.Test.YtbedhpooeabehaaGreatDoorPart19
import Derived.Test.YtbedhpooeabehaaGreatDoorPart18
import Derived.Test.YtbedhpooeabehaaGreatDoorPart10
import Derived.Test.YtbedhpooeabehaaGreatDoorPart5
import Derived.Test.YtbedhpooeabehaaGreatDoorPart14
namespace Go.Proofs.YtbedhpooeabehaaGreatDoor
open Go Go.RowKit Go.Shelf

theorem jx0 (x y z : Int) (w : World) : (Instr.index 22 (A3 x y z) (.int .i64 0)).run Tryz.prog w = .ok (.int .i64 x) w := by kernel_rfl
theorem jx1 (x y z : Int) (w : World) : (Instr.index 22 (A3 x y z) (.int .i64 1)).run Tryz.prog w = .ok (.int .i64 y) w := by kernel_rfl
theorem jx2 (x y z : Int) (w : World) : (Instr.index 22 (A3 x y z) (.int .i64 2)).run Tryz.prog w = .ok (.int .i64 z) w := by kernel_rfl

attribute [local go_sem] Oper.semAt_some ext_const eq_arr eq_arr9 same3_self

/-- tidehallref03.From, of numbers that tell a known set. -/
theorem from_set {n : Int} {l : List Int} {p : Nat → Bool} {v : Value} {base : Nat} (w : World) (hv : Lst w base v l) (hl : l.length ≤ 65536) (h1 : 1 ≤ n) (h2 : n ≤ 12288) (hall : ∀ x ∈ l, 0 ≤ x ∧ x < n) (hp : ∀ j : Nat, inL l j = (decide (j < n.toNat) && p j)) :
    Calls Tryz.prog 56 #[I n, v] w fun e W' => ∃ u, e = .returned u ∧ SetR W' w.heap.size u (setOf n p) ∧ Below w.heap.size w W' := by
  obtain ⟨m, rfl⟩ : ∃ m : Nat, n = m := ⟨n.toNat, by omega⟩
  refine (from_calls w hv.its hl m (by omega) (by omega) (fun i hi => ?_)).mono ?_
  · rw [List.getD_eq_getElem?_getD, List.getElem?_eq_getElem hi]
    exact hall _ (List.getElem_mem hi)
  · rintro e w1 ⟨u, ws, rfl, hu, hi, hB⟩
    have e : ws = setOf (m : Int) p := hi.ext ((setOf_is (m : Int) p).congr hp)
    rw [← e]
    exact ⟨u, rfl, .inl hu, hB⟩

theorem sameBx_sym (a b : Bx) : sameBx a b = sameBx b a := by
  rw [Bool.eq_iff_iff, sameBx_iff, sameBx_iff]
  exact eq_comm

set_option maxRecDepth 100000 in
set_option maxHeartbeats 8000000 in
theorem rpmay_calls (d0 d1 d2 : Int) (b : Bx) (t0 t1 t2 : Bool) (w : World) :
    Calls Tryz.prog 35 #[A3 d0 d1 d2, P9 b t0 t1 t2] w fun e W' => e = .returned (.bool (mayPB d0 d1 d2 b t0 t1 t2)) ∧ Below w.heap.size w W' := by
  have hmx : Tryz.prog.follows .mixedOrders = true := by kernel_rfl
  have HM : Hid (∀ w, Calls Tryz.prog 54 #[A3 d0 d1 d2, B6 b] w fun e W' => e = .returned (.bool (mayBB d0 d1 d2 b)) ∧ Below w.heap.size w W') := fun w => rmayb_calls d0 d1 d2 b w
  have HC : Hid (∀ w, Calls Tryz.prog 55 #[A3 d0 d1 d2, B6 b] w fun e W' => e = .returned (B6 (canonB d0 d1 d2 b)) ∧ Below w.heap.size w W') := fun w => rtold_calls d0 d1 d2 b w
  have HA : Hid (mayPB d0 d1 d2 b t0 t1 t2 = (mayBB d0 d1 d2 b && sameBx b (canonB d0 d1 d2 b) && !torB b t0 t1 t2)) := rfl
  have HT : Hid (torB b t0 t1 t2 = ((t0 && b.a == 1) || (t1 && b.b == 1) || (t2 && b.c == 1))) := rfl
  have HS : Hid (sameBx b (canonB d0 d1 d2 b) = (same3 (canonB d0 d1 d2 b).x (canonB d0 d1 d2 b).y (canonB d0 d1 d2 b).z b.x b.y b.z && same3 (canonB d0 d1 d2 b).a (canonB d0 d1 d2 b).b (canonB d0 d1 d2 b).c b.a b.b b.c)) := sameBx_sym b (canonB d0 d1 d2 b)
  generalize sameBx b (canonB d0 d1 d2 b) = sm at *
  generalize canonB d0 d1 d2 b = c at *
  generalize mayPB d0 d1 d2 b t0 t1 t2 = ans at *
  generalize torB b t0 t1 t2 = tb at *
  generalize mayBB d0 d1 d2 b = mb at *
  go_enter Tryz.func35, Tryz.ntmps35
  go_wp2_with fail
  obtain ⟨W, hW, hB0, b0, b1⟩ := two_start w #[I d0, I d1, I d2] (C9 b t0 t1 t2) 23 30
  rw [hW]
  clear hW
  obtain ⟨c0, c1, c2, hz⟩ := b0.three (Below.refl _ _)
  obtain ⟨⟨x0, x1, x2⟩, ⟨x3, x4, x5⟩, ⟨x6, x7, x8⟩, hz1⟩ := b1.nine (Below.refl _ _)
  go_loopw [5] (fun i wr => ((i = .int .i64 0) ∨ (i = .int .i64 1 ∧ Hid ((t0 && b.a == 1) = false)) ∨ (i = .int .i64 2 ∧ Hid ((t0 && b.a == 1) = false) ∧ Hid ((t1 && b.b == 1) = false)) ∨ (i = .int .i64 3 ∧ Hid ((t0 && b.a == 1) = false) ∧ Hid ((t1 && b.b == 1) = false) ∧ Hid ((t2 && b.c == 1) = false))) ∧ wr = W) (fun i _ => 3 - (RowKit.intOf i).toNat)
  case atStart => exact ⟨.inl rfl, rfl⟩
  case round =>
    obtain ⟨hi, rfl⟩ := hrel
    rcases hi with rfl | ⟨rfl, h0⟩ | ⟨rfl, h0, h1⟩ | ⟨rfl, h0, h1, h2⟩
    · cases t0
      · go_wp2
        go_roundw
        case rel => exact ⟨.inr (.inl ⟨rfl, by show _ = _; simp⟩), by trivial⟩
        case measure => simp [RowKit.intOf]
      · cases hq : b.a == 1
        · go_wp2
          go_roundw
          case rel => exact ⟨.inr (.inl ⟨rfl, by show _ = _; simp⟩), by trivial⟩
          case measure => simp [RowKit.intOf]
        · go_wp2
          go_ret
          exact ⟨by rw [HA.out, HT.out, hq]; simp, hB0⟩
    · cases t1
      · go_wp2
        go_roundw
        case rel => exact ⟨.inr (.inr (.inl ⟨rfl, h0, by show _ = _; simp⟩)), by trivial⟩
        case measure => simp [RowKit.intOf]
      · cases hq : b.b == 1
        · go_wp2
          go_roundw
          case rel => exact ⟨.inr (.inr (.inl ⟨rfl, h0, by show _ = _; simp⟩)), by trivial⟩
          case measure => simp [RowKit.intOf]
        · go_wp2
          go_ret
          exact ⟨by rw [HA.out, HT.out, hq]; simp, hB0⟩
    · cases t2
      · go_wp2
        go_roundw
        case rel => exact ⟨.inr (.inr (.inr ⟨rfl, h0, h1, by show _ = _; simp⟩)), by trivial⟩
        case measure => simp [RowKit.intOf]
      · cases hq : b.c == 1
        · go_wp2
          go_roundw
          case rel => exact ⟨.inr (.inr (.inr ⟨rfl, h0, h1, by show _ = _; simp⟩)), by trivial⟩
          case measure => simp [RowKit.intOf]
        · go_wp2
          go_ret
          exact ⟨by rw [HA.out, HT.out, hq]; simp, hB0⟩
    · have e0 := Ext.cell b0 0
      have e1 := Ext.cell b0 1
      have e2 := Ext.cell b0 2
      have f0 := Ext.cell b1 0
      have f1 := Ext.cell b1 1
      have f2 := Ext.cell b1 2
      have f3 := Ext.cell b1 3
      have f4 := Ext.cell b1 4
      have f5 := Ext.cell b1 5
      simp at e0 e1 e2 f0 f1 f2 f3 f4 f5
      have EA : Hid (ans = (mb && sm)) := by show _ = _; rw [HA.out, HT.out, h0.out, h1.out, h2.out]; simp
      clear HA HT h0 h1 h2
      cases mb
      · go_wp2_with fail
        refine wp_region_look hmx (by kernel_rfl) ?_
        repeat (go_big_quiet_step ((first | (go_at_call 54; exact calls_ext (HM.out _)) | (go_at_call 55; exact calls_ext (HC.out _)))))
        refine wpQuiet_nil ?_
        intro x
        go_wp2
        go_ret
        exact ⟨by rw [EA.out]; rfl, then_below hB0 x.le⟩
      · have E : sm = (same3 c.x c.y c.z b.x b.y b.z && same3 c.a c.b c.c b.a b.b b.c) := HS.out
        cases q1 : same3 c.x c.y c.z b.x b.y b.z
        · rw [q1] at E
          go_wp2_with fail
          refine wp_region_look hmx (by kernel_rfl) ?_
          repeat (go_big_quiet_step ((first | (go_at_call 54; exact calls_ext (HM.out _)) | (go_at_call 55; exact calls_ext (HC.out _)))))
          refine wpQuiet_nil ?_
          intro x
          go_wp2
          go_ret
          exact ⟨by rw [EA.out, E]; rfl, then_below hB0 x.le⟩
        · cases q2 : same3 c.a c.b c.c b.a b.b b.c
          · rw [q1, q2] at E
            go_wp2_with fail
            refine wp_region_look hmx (by kernel_rfl) ?_
            repeat (go_big_quiet_step ((first | (go_at_call 54; exact calls_ext (HM.out _)) | (go_at_call 55; exact calls_ext (HC.out _)))))
            refine wpQuiet_nil ?_
            intro x
            go_wp2
            go_ret
            exact ⟨by rw [EA.out, E]; rfl, then_below hB0 x.le⟩
          · rw [q1, q2] at E
            go_wp2_with fail
            refine wp_region_look hmx (by kernel_rfl) ?_
            repeat (go_big_quiet_step ((first | (go_at_call 54; exact calls_ext (HM.out _)) | (go_at_call 55; exact calls_ext (HC.out _)))))
            refine wpQuiet_nil ?_
            intro x
            go_wp2
            go_ret
            exact ⟨by rw [EA.out, E]; rfl, then_below hB0 x.le⟩

set_option maxRecDepth 100000 in
set_option maxHeartbeats 4000000 in
theorem rpcheck_calls (d0 d1 d2 : Int) (b : Bx) (t0 t1 t2 : Bool) (w : World) :
    Calls Tryz.prog 17 #[A3 d0 d1 d2, P9 b t0 t1 t2] w fun e W' => e = .returned (I (errP d0 d1 d2 b t0 t1 t2)) ∧ Below w.heap.size w W' := by
  have HP : Hid (∀ w, Calls Tryz.prog 35 #[A3 d0 d1 d2, P9 b t0 t1 t2] w fun e W' => e = .returned (.bool (mayPB d0 d1 d2 b t0 t1 t2)) ∧ Below w.heap.size w W') := fun w => rpmay_calls d0 d1 d2 b t0 t1 t2 w
  have HE : Hid (errP d0 d1 d2 b t0 t1 t2 = if okDB d0 d1 d2 then codeOf (mayPB d0 d1 d2 b t0 t1 t2) else 8) := rfl
  by_cases hm : mayD d0 d1 d2
  · have HM : Hid (∀ w, Calls Tryz.prog 25 #[A3 d0 d1 d2] w fun e W' => e = .returned (.bool true) ∧ Below w.heap.size w W') := fun w => rmay_yes w hm
    have E : Hid (errP d0 d1 d2 b t0 t1 t2 = codeOf (mayPB d0 d1 d2 b t0 t1 t2)) := by show _ = _; rw [HE.out, (okDB_iff _ _ _).2 hm]; rfl
    generalize mayPB d0 d1 d2 b t0 t1 t2 = mp at *
    generalize errP d0 d1 d2 b t0 t1 t2 = er at *
    clear hm HE
    go_enter Tryz.func17, Tryz.ntmps17
    go_wp2_with fail
    obtain ⟨W, hW, hB0, b0, b1⟩ := two_start w #[I d0, I d1, I d2] (C9 b t0 t1 t2) 23 30
    rw [hW]
    clear hW
    refine (HM.out _).mono ?_
    rintro e w1 ⟨rfl, hT⟩
    obtain ⟨c0, c1, c2, hz⟩ := b0.three hT
    obtain ⟨⟨x0, x1, x2⟩, ⟨x3, x4, x5⟩, ⟨x6, x7, x8⟩, hz1⟩ := b1.nine hT
    go_wp2_with fail
    refine (HP.out _).mono ?_
    rintro e w2 ⟨rfl, hT2⟩
    cases mp
    · go_wp2
      go_ret
      exact ⟨by rw [E.out]; rfl, then_below hB0 (then_below hT hT2)⟩
    · go_wp2
      go_ret
      exact ⟨by rw [E.out]; rfl, then_below hB0 (then_below hT hT2)⟩
  · have HM : Hid (∀ w, Calls Tryz.prog 25 #[A3 d0 d1 d2] w fun e W' => e = .returned (.bool false) ∧ Below w.heap.size w W') := fun w => rmay_no w hm
    have E : Hid (errP d0 d1 d2 b t0 t1 t2 = 8) := by
      show _ = _
      rw [HE.out, show okDB d0 d1 d2 = false by
        cases h : okDB d0 d1 d2
        · rfl
        · exact absurd ((okDB_iff _ _ _).1 h) hm]
      rfl
    generalize errP d0 d1 d2 b t0 t1 t2 = er at *
    clear hm HE
    go_enter Tryz.func17, Tryz.ntmps17
    go_wp2_with fail
    obtain ⟨W, hW, hB0, b0, b1⟩ := two_start w #[I d0, I d1, I d2] (C9 b t0 t1 t2) 23 30
    rw [hW]
    clear hW
    refine (HM.out _).mono ?_
    rintro e w1 ⟨rfl, hT⟩
    go_wp2
    go_ret
    exact ⟨by rw [E.out]; rfl, then_below hB0 hT⟩

end Go.Proofs.YtbedhpooeabehaaGreatDoor

/-
  What the document's own answer for layer 5 (tidehallref05) gives: asked, Many, Link; nothing that lay before is turned.
-/
namespace Go.Proofs.YtbedhpooeabehaaGreatDoor
open Go.RowKit Go.Shelf

attribute [local go_sem] Oper.semAt_some ext_const

end Go.Proofs.YtbedhpooeabehaaGreatDoor

/-
  What the document's own answer for layer 5 (tidehallref05) gives: Ends; nothing that lay before is turned.
-/
namespace Go.Proofs.YtbedhpooeabehaaGreatDoor
open Go.RowKit Go.Shelf

attribute [local go_sem] Oper.semAt_some ext_const

end Go.Proofs.YtbedhpooeabehaaGreatDoor

/-
  What the document's own answer for layer 5 (tidehallref05) gives: Among, taken: the cables from so many midplanes on, rising, in new memory.
-/
namespace Go.Proofs.YtbedhpooeabehaaGreatDoor
open Go Go.RowKit Go.Shelf

attribute [local go_sem] Oper.semAt_some ext_const

theorem among_false {d0 d1 d2 m o : Int} {k : Fin 3} {many : Nat} (h : ∀ i : Nat, i < many → onD d0 d1 d2 m k i ≠ o) : amongW d0 d1 d2 m k many o = false := by
  cases e : amongW d0 d1 d2 m k many o
  · rfl
  · obtain ⟨i, hi, he⟩ := among_iff.1 e
    exact absurd he (h i hi)

set_option maxRecDepth 100000 in
set_option maxHeartbeats 2000000 in
theorem among_calls {d0 d1 d2 m ax : Int} (w : World) (hm : mayD d0 d1 d2) (hn : 0 ≤ m ∧ m < d0 * d1 * d2) {k : Fin 3} (hk : ax = axI k) (many : Nat) (hmn : many ≤ 16) (o : Int) :
    Calls Tryz.prog 89 #[A3 d0 d1 d2, I ax, I m, I (many : Int), I o] w fun e W' => e = .returned (.bool (amongW d0 d1 d2 m k many o)) ∧ Below w.heap.size w W' := by
  have HO : Hid (∀ (i : Int) w, Calls Tryz.prog 28 #[A3 d0 d1 d2, I m, I ax, I i] w fun x W' => x = .returned (I (onD d0 d1 d2 m k i)) ∧ Below w.heap.size w W') := fun i w => ron_ax w hm hn hk
  have HY : Hid (∀ i : Nat, i < many → onD d0 d1 d2 m k i = o → amongW d0 d1 d2 m k many o = true) := fun i hi he => among_iff.2 ⟨i, hi, he⟩
  have HF : Hid ((∀ i : Nat, i < many → onD d0 d1 d2 m k i ≠ o) → amongW d0 d1 d2 m k many o = false) := among_false
  generalize amongW d0 d1 d2 m k many o = ans at *
  clear hk hn
  go_enter Tryz.func89, Tryz.ntmps89
  have b0 := Blk.new w 23 #[I d0, I d1, I d2]
  have hB0 : Below w.heap.size w (w.alloc (.cells #[I d0, I d1, I d2] 23)) := (Below.refl _ w).alloc (Nat.le_refl _) _
  go_wp2
  generalize w.alloc (.cells #[I d0, I d1, I d2] 23) = W at *
  go_loopw [11] (fun i wr => ∃ j : Nat, j ≤ many ∧ i = .int .i64 j ∧ Hid (∀ i : Nat, i < j → onD d0 d1 d2 m k i ≠ o) ∧ Below W.heap.size W wr) (fun i _ => many - (RowKit.intOf i).toNat)
  case atStart => exact ⟨0, by omega, rfl, fun i hi => by omega, Below.refl _ _⟩
  case round =>
    obtain ⟨j, hj, rfl, HJ, hT⟩ := hrel
    by_cases hlt : (j : Int) < (many : Int)
    · obtain ⟨c0, c1, c2, hz⟩ := b0.three hT
      have HN : Hid (onD d0 d1 d2 m k j ≠ o → ∀ i : Nat, i < j + 1 → onD d0 d1 d2 m k i ≠ o) := fun hne i hi => by
        rcases Nat.lt_succ_iff_lt_or_eq.1 hi with h | rfl
        · exact HJ.out i h
        · exact hne
      have HE : Hid (onD d0 d1 d2 m k j = o → ans = true) := HY.out j (by omega)
      have HC : Hid (∀ w, Calls Tryz.prog 28 #[A3 d0 d1 d2, I m, I ax, I (j : Int)] w fun x W' => x = .returned (I (onD d0 d1 d2 m k j)) ∧ Below w.heap.size w W') := HO.out j
      generalize onD d0 d1 d2 m k (j : Int) = p at HN HE HC
      go_wp2_with fail
      refine (HC.out _).mono ?_
      rintro x w1 ⟨rfl, hB1⟩
      cases hq : (p == o)
      · go_wp2
        go_roundw
        case rel => exact ⟨j + 1, by omega, by go_num, HN.out (by simpa using hq), then_below hT hB1⟩
        case measure => simp [RowKit.intOf]; omega
      · have E : ans = true := HE.out (by simpa using hq)
        subst E
        go_wp2
        go_ret
        exact ⟨rfl, then_below hB0 (then_below hT hB1)⟩
    · have E : ans = false := HF.out fun i hi => HJ.out i (by omega)
      subst E
      go_wp2
      go_ret
      exact ⟨rfl, then_below hB0 hT⟩

/-- Of the first t midplanes those among so many from m on: their cables. -/
def takeTo (d0 d1 d2 m : Int) (k : Fin 3) (many t : Nat) : List Int := ((List.range t).filter fun o : Nat => amongW d0 d1 d2 m k many (o : Int)).map fun o : Nat => cabW d0 d1 d2 k (o : Int)
theorem takeTo_len (d0 d1 d2 m : Int) (k : Fin 3) (many t : Nat) : (takeTo d0 d1 d2 m k many t).length ≤ t := by
  have := List.length_filter_le (fun o : Nat => amongW d0 d1 d2 m k many (o : Int)) (List.range t)
  simpa [takeTo] using this
theorem takeTo_yes {d0 d1 d2 m : Int} {k : Fin 3} {many t : Nat} (h : amongW d0 d1 d2 m k many (t : Int) = true) : takeTo d0 d1 d2 m k many (t + 1) = takeTo d0 d1 d2 m k many t ++ [cabW d0 d1 d2 k (t : Int)] := by
  simp [takeTo, List.range_succ, List.filter_append, h]
theorem takeTo_no {d0 d1 d2 m : Int} {k : Fin 3} {many t : Nat} (h : amongW d0 d1 d2 m k many (t : Int) = false) : takeTo d0 d1 d2 m k many (t + 1) = takeTo d0 d1 d2 m k many t := by
  simp [takeTo, List.range_succ, List.filter_append, h]
theorem takeTo_all {d0 d1 d2 m : Int} {k : Fin 3} {many : Nat} (h : 1 < dimAt d0 d1 d2 k) : takeTo d0 d1 d2 m k many (d0 * d1 * d2).toNat = cablesW d0 d1 d2 m k many := by
  unfold takeTo cablesW nodesW
  rw [if_pos h]

set_option maxRecDepth 100000 in
set_option maxHeartbeats 2000000 in
theorem taken_one {d0 d1 d2 m ax : Int} (w : World) (hm : mayD d0 d1 d2) {k : Fin 3} (hk : ax = axI k) (h1 : ¬ 1 < dimAt d0 d1 d2 k) (many : Int) :
    Calls Tryz.prog 84 #[A3 d0 d1 d2, I ax, I m, I many] w fun e W' => e = .returned (.slice none 0 0) ∧ Below w.heap.size w W' := by
  have hN := N_bd hm
  have HM : Hid (∀ w, Calls Tryz.prog 27 #[A3 d0 d1 d2] w fun e W' => e = .returned (I (d0 * d1 * d2)) ∧ Below w.heap.size w W') := fun w => rn_calls w hm
  subst hk
  generalize d0 * d1 * d2 = N at *
  clear hm
  have hN0 : 0 < N := by omega
  rcases fin3 k with rfl | rfl | rfl
  all_goals
    simp only [axI, dimAt] at *
    go_enter Tryz.func84, Tryz.ntmps84
    go_wp2_with fail
    refine (HM.out _).mono ?_
    rintro x w1 ⟨rfl, hB⟩
    have hBW := then_below ((Below.refl _ w).alloc (Nat.le_refl _) (.cells #[I d0, I d1, I d2] 23)) hB
    have g0 := (Blk.new w _ _).later hB
    have c0 := g0.cell 0
    have c1 := g0.cell 1
    have c2 := g0.cell 2
    simp at c0 c1 c2
    go_wp2
    go_loopw [9, 11] (fun v i wr => (v = .slice none 0 0 ∧ i = .int .i64 0) ∧ wr = w1) (fun _ _ _ => 0)
    case atStart => exact ⟨⟨rfl, rfl⟩, by trivial⟩
    case round =>
      obtain ⟨⟨rfl, rfl⟩, hw⟩ := hrel
      subst hw
      go_wp2
      go_ret
      exact ⟨rfl, hBW⟩

set_option maxRecDepth 100000 in
set_option maxHeartbeats 4000000 in
theorem taken_more {d0 d1 d2 m ax : Int} (w : World) (hm : mayD d0 d1 d2) (hn : 0 ≤ m ∧ m < d0 * d1 * d2) {k : Fin 3} (hk : ax = axI k) (h1 : 1 < dimAt d0 d1 d2 k) (many : Nat) (hmn : many ≤ 16) :
    Calls Tryz.prog 84 #[A3 d0 d1 d2, I ax, I m, I (many : Int)] w fun e W' => ∃ v, e = .returned v ∧ Lst W' w.heap.size v (cablesW d0 d1 d2 m k many) ∧ Below w.heap.size w W' := by
  have hN := N_bd hm
  rw [← takeTo_all h1]
  have HM : Hid (∀ w, Calls Tryz.prog 27 #[A3 d0 d1 d2] w fun e W' => e = .returned (I (d0 * d1 * d2)) ∧ Below w.heap.size w W') := fun w => rn_calls w hm
  have HA : Hid (∀ (o : Int) w, Calls Tryz.prog 89 #[A3 d0 d1 d2, I (axI k), I m, I (many : Int), I o] w fun e W' => e = .returned (.bool (amongW d0 d1 d2 m k many o)) ∧ Below w.heap.size w W') := fun o w => among_calls w hm hn rfl many hmn o
  have HY : Hid (∀ t : Nat, amongW d0 d1 d2 m k many (t : Int) = true → takeTo d0 d1 d2 m k many (t + 1) = takeTo d0 d1 d2 m k many t ++ [axI k * (d0 * d1 * d2) + (t : Int)]) := fun t h => takeTo_yes h
  have HF : Hid (∀ t : Nat, amongW d0 d1 d2 m k many (t : Int) = false → takeTo d0 d1 d2 m k many (t + 1) = takeTo d0 d1 d2 m k many t) := fun t h => takeTo_no h
  have HL : Hid (∀ t : Nat, (takeTo d0 d1 d2 m k many t).length ≤ t) := fun t => takeTo_len d0 d1 d2 m k many t
  have H0 : takeTo d0 d1 d2 m k many 0 = [] := rfl
  subst hk
  generalize d0 * d1 * d2 = N at *
  generalize takeTo d0 d1 d2 m k many = T at *
  generalize amongW d0 d1 d2 m k many = A at *
  clear hn hm
  rcases fin3 k with rfl | rfl | rfl
  all_goals
    simp only [axI, dimAt] at *
    go_enter Tryz.func84, Tryz.ntmps84
    go_wp2_with fail
    refine (HM.out _).mono ?_
    rintro x w1 ⟨rfl, hB⟩
    have hBW := then_below ((Below.refl _ w).alloc (Nat.le_refl _) (.cells #[I d0, I d1, I d2] 23)) hB
    have g0 := (Blk.new w _ _).later hB
    clear hB
    go_wp2
    go_loopw [9, 11] (fun v i wr => ∃ t : Nat, (t : Int) ≤ N ∧ i = .int .i64 t ∧ Lst wr w1.heap.size v (T t) ∧ Below w1.heap.size w1 wr) (fun _ i _ => N.toNat - (RowKit.intOf i).toNat)
    case atStart => exact ⟨0, by omega, rfl, by rw [H0]; exact Lst.nil _ _, Below.refl _ _⟩
    case round =>
      obtain ⟨t, ht, rfl, hL, hT⟩ := hrel
      obtain ⟨c0, c1, c2, hz⟩ := g0.three hT
      by_cases hlt : (t : Int) < N
      · go_wp2_with fail
        refine (HA.out _ _).mono ?_
        rintro x w2 ⟨rfl, hB2⟩
        have hL := hL.later hB2
        have hT := then_below hT hB2
        clear c0 c1 c2 hz hB2
        cases hq : A (t : Int)
        · go_wp2
          go_roundw
          case rel => exact ⟨t + 1, by omega, by go_num, by rw [HF.out t hq]; exact hL, hT⟩
          case measure => simp [RowKit.intOf]; omega
        · go_wp2_with (at_builtin; refine wpList_app rfl _ _ rfl rfl rfl hL (by have := HL.out t; omega) hT.size ?_; intro v' w3 hL3 hT3)
          have hT := hT.trans hT3
          have e := HY.out t hq
          (try simp only [Int.zero_mul, Int.one_mul, Int.zero_add] at e)
          rw [← e] at hL3
          clear e hT3 hL
          go_roundw
          case rel => exact ⟨t + 1, by omega, by go_num, hL3, hT⟩
          case measure => simp [RowKit.intOf]; omega
      · have E : N.toNat = t := by omega
        have hL' : Lst wr w.heap.size _ (T N.toNat) := (E ▸ hL).weak hBW.size
        clear hL E
        go_wp2
        go_ret
        exact ⟨_, rfl, hL', then_below hBW hT⟩

theorem taken_any {d0 d1 d2 m ax : Int} (w : World) (hm : mayD d0 d1 d2) (hn : 0 ≤ m ∧ m < d0 * d1 * d2) {k : Fin 3} (hk : ax = axI k) {z : Int} (hz : 0 ≤ z ∧ z ≤ 16) :
    Calls Tryz.prog 84 #[A3 d0 d1 d2, I ax, I m, I z] w fun e W' => ∃ v, e = .returned v ∧ Lst W' w.heap.size v (cablesW d0 d1 d2 m k z.toNat) ∧ Below w.heap.size w W' := by
  obtain ⟨many, rfl⟩ : ∃ many : Nat, z = (many : Int) := ⟨z.toNat, by omega⟩
  rw [Int.toNat_natCast]
  by_cases h1 : 1 < dimAt d0 d1 d2 k
  · exact taken_more w hm hn hk h1 many (by omega)
  · refine (taken_one w hm hk h1 many).mono ?_
    rintro e W' ⟨rfl, hB⟩
    refine ⟨_, rfl, ?_, hB⟩
    unfold cablesW
    rw [if_neg h1]
    exact Lst.nil _ _

end Go.Proofs.YtbedhpooeabehaaGreatDoor

/-
  What the document's own answer for layer 5 (tidehallref05) gives: Line, Took, Run: the cables of a line, and those that a run takes, rising, in new memory.
-/
namespace Go.Proofs.YtbedhpooeabehaaGreatDoor
open Go Go.RowKit Go.Shelf

attribute [local go_sem] Oper.semAt_some ext_const

/-- What each operation of the statement that hands a line's cables back keeps. -/
def wordV (d0 d1 d2 m axis dim : Int) (Bn off base : Nat) (X : List Int) (i : Nat) (v : Value) (w : World) : Prop :=
  match i with
  | 0 => v = A3 d0 d1 d2
  | 1 => v = I axis
  | 2 => v = I m
  | 3 => v = I axis
  | 4 => v = .pointer (some ⟨Bn, off, none⟩)
  | 5 => v = I dim
  | 6 => Lst w base v X
  | 7 => Lst w base v X
  | 8 => v = I 0
  | _ => False
theorem wordV_later {d0 d1 d2 m axis dim : Int} {Bn off base : Nat} {X : List Int} (i : Nat) (v : Value) (w w' : World) (h : wordV d0 d1 d2 m axis dim Bn off base X i v w) (hB : Below w.heap.size w w') : wordV d0 d1 d2 m axis dim Bn off base X i v w' := by
  match i, h with
  | 0, h => exact h
  | 1, h => exact h
  | 2, h => exact h
  | 3, h => exact h
  | 4, h => exact h
  | 5, h => exact h
  | 6, h => exact h.later hB
  | 7, h => exact h.later hB
  | 8, h => exact h
  | n + 9, h => exact h.elim

set_option maxRecDepth 100000 in
set_option maxHeartbeats 4000000 in
theorem took_calls {d0 d1 d2 axis m long : Int} (torus : Bool) (w : World) (hm : mayD d0 d1 d2) (hn : 0 ≤ m ∧ m < d0 * d1 * d2) {k : Fin 3} (hk : axis = axI k) (hl : 1 ≤ long ∧ long ≤ dimAt d0 d1 d2 k) :
    Calls Tryz.prog 74 #[A3 d0 d1 d2, I axis, I m, I long, .bool torus] w fun e W' => ∃ v, e = .returned v ∧ Lst W' w.heap.size v (cablesW d0 d1 d2 m k (mostW (dimAt d0 d1 d2 k) long torus).toNat) ∧ Below w.heap.size w W' := by
  have hmx : Tryz.prog.follows .mixedOrders = true := by kernel_rfl
  subst hk
  have hok := dimAt_ok hm k
  unfold okD at hok
  by_cases h1 : long = 1
  · subst h1
    have e0 : cablesW d0 d1 d2 m k (mostW (dimAt d0 d1 d2 k) 1 torus).toNat = [] := by
      have : mostW (dimAt d0 d1 d2 k) 1 torus = 0 := by unfold mostW; simp
      rw [this]
      simp [cablesW, nodesW, amongW]
    rw [e0]
    have b0 := (Below.refl w.heap.size w).alloc (Nat.le_refl _) (.cells #[I d0, I d1, I d2] 23)
    clear hn hl hok e0
    go_enter Tryz.func74, Tryz.ntmps74
    go_wp2
    go_ret
    exact ⟨_, rfl, Lst.nil _ _, b0⟩
  · have h2 : (long == 1) = false := by simp; omega
    have hmb : 0 ≤ mostW (dimAt d0 d1 d2 k) long torus ∧ mostW (dimAt d0 d1 d2 k) long torus ≤ 16 := by unfold mostW; split <;> omega
    have HT : Hid (∀ w, Calls Tryz.prog 84 #[A3 d0 d1 d2, I (axI k), I m, I (mostW (dimAt d0 d1 d2 k) long torus)] w fun e W' => ∃ u, e = .returned u ∧ Lst W' w.heap.size u (cablesW d0 d1 d2 m k (mostW (dimAt d0 d1 d2 k) long torus).toNat) ∧ Below w.heap.size w W') := fun w => taken_any w hm hn rfl hmb
    have hcase : (torus = true ∧ mostW (dimAt d0 d1 d2 k) long torus = dimAt d0 d1 d2 k) ∨ (torus = false ∧ mostW (dimAt d0 d1 d2 k) long torus = long - 1) := by
      unfold mostW
      cases torus
      · exact .inr ⟨rfl, by simp⟩
      · exact .inl ⟨rfl, by rw [if_pos ⟨rfl, by omega⟩]⟩
    generalize mostW (dimAt d0 d1 d2 k) long torus = z at *
    generalize cablesW d0 d1 d2 m k z.toNat = X at *
    clear hn hmb h1
    obtain ⟨hl1, hl2⟩ := hl
    have g0 := Blk.new w 23 #[I d0, I d1, I d2]
    have hB1 := (Below.refl w.heap.size w).alloc (Nat.le_refl _) (.cells #[I d0, I d1, I d2] 23)
    rcases hcase with ⟨rfl, rfl⟩ | ⟨rfl, rfl⟩
    · rcases fin3 k with rfl | rfl | rfl
      · simp only [axI, dimAt] at *
        go_enter Tryz.func74, Tryz.ntmps74
        go_wp2_with fail
        generalize w.alloc (.cells #[I d0, I d1, I d2] 23) = W1 at *
        refine wp_region_loud (w0 := W1) (wordV d0 d1 d2 m 0 d0 w.heap.size 0 W1.heap.size X) hmx (by kernel_rfl) wordV_later ?_ ?_
        · intro i o hi a w' hT hL hpre
          have t1 : a.tmps.getD 1 undef = I 0 := by
            rw [Array.getD_eq_getD_getElem?, hL.out 1 (of_decide_eq_true (by kernel_rfl))]; rfl
          have t2 : a.tmps.getD 2 undef = I m := by
            rw [Array.getD_eq_getD_getElem?, hL.out 2 (of_decide_eq_true (by kernel_rfl))]; rfl
          have t3 : a.tmps.getD 5 undef = .pointer (some ⟨w.heap.size, 0, none⟩) := by
            rw [Array.getD_eq_getD_getElem?, hL.out 5 (of_decide_eq_true (by kernel_rfl))]; rfl
          obtain ⟨c0, c1, c2, hz⟩ := g0.three hT
          clear hL
          match i, hi with
          | 0, hi =>
            obtain rfl := Option.some.inj hi
            refine .inl ⟨A3 d0 d1 d2, ?_, rfl⟩
            simp [execOp, go_sem, Act.eval, t3, c0, c1, c2]
          | 1, hi =>
            obtain rfl := Option.some.inj hi
            refine .inl ⟨I 0, ?_, rfl⟩
            simp [execOp, go_sem, Act.eval, t1]
          | 2, hi =>
            obtain rfl := Option.some.inj hi
            refine .inl ⟨I m, ?_, rfl⟩
            simp [execOp, go_sem, Act.eval, t2]
          | 3, hi =>
            obtain rfl := Option.some.inj hi
            refine .inl ⟨I 0, ?_, rfl⟩
            simp [execOp, go_sem, Act.eval, t1]
          | 4, hi =>
            obtain rfl := Option.some.inj hi
            have p0 : a.tmps.getD 17 undef = I 0 := hpre ⟨3, .data⟩ (by simp) rfl
            refine .inl ⟨.pointer (some ⟨w.heap.size, 0, none⟩), ?_, rfl⟩
            simp [execOp, go_sem, Act.eval, t3, p0]
          | 5, hi =>
            obtain rfl := Option.some.inj hi
            have p0 : a.tmps.getD 18 undef = .pointer (some ⟨w.heap.size, 0, none⟩) := hpre ⟨4, .data⟩ (by simp) rfl
            refine .inl ⟨I d0, ?_, rfl⟩
            simp [execOp, go_sem, Act.eval, p0, c0]
          | 6, hi =>
            obtain rfl := Option.some.inj hi
            have p0 : a.tmps.getD 14 undef = A3 d0 d1 d2 := hpre ⟨0, .data⟩ (by simp) rfl
            have p1 : a.tmps.getD 15 undef = I 0 := hpre ⟨1, .data⟩ (by simp) rfl
            have p2 : a.tmps.getD 16 undef = I m := hpre ⟨2, .data⟩ (by simp) rfl
            have p5 : a.tmps.getD 19 undef = I d0 := hpre ⟨5, .data⟩ (by simp) rfl
            refine .inr ⟨84, #[A3 d0 d1 d2, I 0, I m, I d0], ?_, ?_⟩
            · simp [go_sem, Act.eval, p0, p1, p2, p5]
            · refine (HT.out w').mono ?_
              rintro e w'' ⟨v, rfl, hl, hB⟩
              exact ⟨_, rfl, hB, hl.weak hT.size⟩
          | 7, hi =>
            obtain rfl := Option.some.inj hi
            have p0 : Lst w' W1.heap.size (a.tmps.getD 20 undef) X := hpre ⟨6, .data⟩ (by simp) rfl
            refine .inl ⟨a.tmps.getD 20 undef, ?_, p0⟩
            simp [execOp, go_sem, Act.eval]
          | n + 8, hi => simp at hi
        · intro v w' hT hall
          have hX : Lst w' W1.heap.size (v 7) X := hall 7 (of_decide_eq_true (by kernel_rfl))
          clear hall
          simp only [List.length_cons, List.length_nil, Nat.zero_add, Nat.reduceAdd, List.range, List.range.loop, List.foldl_cons, List.foldl_nil, dstOf, List.getElem?_cons_zero, List.getElem?_cons_succ, Option.getD_some, Act.put, List.setIfInBounds_toArray, List.set_cons_succ, List.set_cons_zero]
          go_wp2
          go_ret
          exact ⟨_, rfl, hX.weak hB1.size, then_below hB1 hT⟩
      · simp only [axI, dimAt] at *
        go_enter Tryz.func74, Tryz.ntmps74
        go_wp2_with fail
        generalize w.alloc (.cells #[I d0, I d1, I d2] 23) = W1 at *
        refine wp_region_loud (w0 := W1) (wordV d0 d1 d2 m 1 d1 w.heap.size 1 W1.heap.size X) hmx (by kernel_rfl) wordV_later ?_ ?_
        · intro i o hi a w' hT hL hpre
          have t1 : a.tmps.getD 1 undef = I 1 := by
            rw [Array.getD_eq_getD_getElem?, hL.out 1 (of_decide_eq_true (by kernel_rfl))]; rfl
          have t2 : a.tmps.getD 2 undef = I m := by
            rw [Array.getD_eq_getD_getElem?, hL.out 2 (of_decide_eq_true (by kernel_rfl))]; rfl
          have t3 : a.tmps.getD 5 undef = .pointer (some ⟨w.heap.size, 0, none⟩) := by
            rw [Array.getD_eq_getD_getElem?, hL.out 5 (of_decide_eq_true (by kernel_rfl))]; rfl
          obtain ⟨c0, c1, c2, hz⟩ := g0.three hT
          clear hL
          match i, hi with
          | 0, hi =>
            obtain rfl := Option.some.inj hi
            refine .inl ⟨A3 d0 d1 d2, ?_, rfl⟩
            simp [execOp, go_sem, Act.eval, t3, c0, c1, c2]
          | 1, hi =>
            obtain rfl := Option.some.inj hi
            refine .inl ⟨I 1, ?_, rfl⟩
            simp [execOp, go_sem, Act.eval, t1]
          | 2, hi =>
            obtain rfl := Option.some.inj hi
            refine .inl ⟨I m, ?_, rfl⟩
            simp [execOp, go_sem, Act.eval, t2]
          | 3, hi =>
            obtain rfl := Option.some.inj hi
            refine .inl ⟨I 1, ?_, rfl⟩
            simp [execOp, go_sem, Act.eval, t1]
          | 4, hi =>
            obtain rfl := Option.some.inj hi
            have p0 : a.tmps.getD 17 undef = I 1 := hpre ⟨3, .data⟩ (by simp) rfl
            refine .inl ⟨.pointer (some ⟨w.heap.size, 1, none⟩), ?_, rfl⟩
            simp [execOp, go_sem, Act.eval, t3, p0]
          | 5, hi =>
            obtain rfl := Option.some.inj hi
            have p0 : a.tmps.getD 18 undef = .pointer (some ⟨w.heap.size, 1, none⟩) := hpre ⟨4, .data⟩ (by simp) rfl
            refine .inl ⟨I d1, ?_, rfl⟩
            simp [execOp, go_sem, Act.eval, p0, c1]
          | 6, hi =>
            obtain rfl := Option.some.inj hi
            have p0 : a.tmps.getD 14 undef = A3 d0 d1 d2 := hpre ⟨0, .data⟩ (by simp) rfl
            have p1 : a.tmps.getD 15 undef = I 1 := hpre ⟨1, .data⟩ (by simp) rfl
            have p2 : a.tmps.getD 16 undef = I m := hpre ⟨2, .data⟩ (by simp) rfl
            have p5 : a.tmps.getD 19 undef = I d1 := hpre ⟨5, .data⟩ (by simp) rfl
            refine .inr ⟨84, #[A3 d0 d1 d2, I 1, I m, I d1], ?_, ?_⟩
            · simp [go_sem, Act.eval, p0, p1, p2, p5]
            · refine (HT.out w').mono ?_
              rintro e w'' ⟨v, rfl, hl, hB⟩
              exact ⟨_, rfl, hB, hl.weak hT.size⟩
          | 7, hi =>
            obtain rfl := Option.some.inj hi
            have p0 : Lst w' W1.heap.size (a.tmps.getD 20 undef) X := hpre ⟨6, .data⟩ (by simp) rfl
            refine .inl ⟨a.tmps.getD 20 undef, ?_, p0⟩
            simp [execOp, go_sem, Act.eval]
          | n + 8, hi => simp at hi
        · intro v w' hT hall
          have hX : Lst w' W1.heap.size (v 7) X := hall 7 (of_decide_eq_true (by kernel_rfl))
          clear hall
          simp only [List.length_cons, List.length_nil, Nat.zero_add, Nat.reduceAdd, List.range, List.range.loop, List.foldl_cons, List.foldl_nil, dstOf, List.getElem?_cons_zero, List.getElem?_cons_succ, Option.getD_some, Act.put, List.setIfInBounds_toArray, List.set_cons_succ, List.set_cons_zero]
          go_wp2
          go_ret
          exact ⟨_, rfl, hX.weak hB1.size, then_below hB1 hT⟩
      · simp only [axI, dimAt] at *
        go_enter Tryz.func74, Tryz.ntmps74
        go_wp2_with fail
        generalize w.alloc (.cells #[I d0, I d1, I d2] 23) = W1 at *
        refine wp_region_loud (w0 := W1) (wordV d0 d1 d2 m 2 d2 w.heap.size 2 W1.heap.size X) hmx (by kernel_rfl) wordV_later ?_ ?_
        · intro i o hi a w' hT hL hpre
          have t1 : a.tmps.getD 1 undef = I 2 := by
            rw [Array.getD_eq_getD_getElem?, hL.out 1 (of_decide_eq_true (by kernel_rfl))]; rfl
          have t2 : a.tmps.getD 2 undef = I m := by
            rw [Array.getD_eq_getD_getElem?, hL.out 2 (of_decide_eq_true (by kernel_rfl))]; rfl
          have t3 : a.tmps.getD 5 undef = .pointer (some ⟨w.heap.size, 0, none⟩) := by
            rw [Array.getD_eq_getD_getElem?, hL.out 5 (of_decide_eq_true (by kernel_rfl))]; rfl
          obtain ⟨c0, c1, c2, hz⟩ := g0.three hT
          clear hL
          match i, hi with
          | 0, hi =>
            obtain rfl := Option.some.inj hi
            refine .inl ⟨A3 d0 d1 d2, ?_, rfl⟩
            simp [execOp, go_sem, Act.eval, t3, c0, c1, c2]
          | 1, hi =>
            obtain rfl := Option.some.inj hi
            refine .inl ⟨I 2, ?_, rfl⟩
            simp [execOp, go_sem, Act.eval, t1]
          | 2, hi =>
            obtain rfl := Option.some.inj hi
            refine .inl ⟨I m, ?_, rfl⟩
            simp [execOp, go_sem, Act.eval, t2]
          | 3, hi =>
            obtain rfl := Option.some.inj hi
            refine .inl ⟨I 2, ?_, rfl⟩
            simp [execOp, go_sem, Act.eval, t1]
          | 4, hi =>
            obtain rfl := Option.some.inj hi
            have p0 : a.tmps.getD 17 undef = I 2 := hpre ⟨3, .data⟩ (by simp) rfl
            refine .inl ⟨.pointer (some ⟨w.heap.size, 2, none⟩), ?_, rfl⟩
            simp [execOp, go_sem, Act.eval, t3, p0]
          | 5, hi =>
            obtain rfl := Option.some.inj hi
            have p0 : a.tmps.getD 18 undef = .pointer (some ⟨w.heap.size, 2, none⟩) := hpre ⟨4, .data⟩ (by simp) rfl
            refine .inl ⟨I d2, ?_, rfl⟩
            simp [execOp, go_sem, Act.eval, p0, c2]
          | 6, hi =>
            obtain rfl := Option.some.inj hi
            have p0 : a.tmps.getD 14 undef = A3 d0 d1 d2 := hpre ⟨0, .data⟩ (by simp) rfl
            have p1 : a.tmps.getD 15 undef = I 2 := hpre ⟨1, .data⟩ (by simp) rfl
            have p2 : a.tmps.getD 16 undef = I m := hpre ⟨2, .data⟩ (by simp) rfl
            have p5 : a.tmps.getD 19 undef = I d2 := hpre ⟨5, .data⟩ (by simp) rfl
            refine .inr ⟨84, #[A3 d0 d1 d2, I 2, I m, I d2], ?_, ?_⟩
            · simp [go_sem, Act.eval, p0, p1, p2, p5]
            · refine (HT.out w').mono ?_
              rintro e w'' ⟨v, rfl, hl, hB⟩
              exact ⟨_, rfl, hB, hl.weak hT.size⟩
          | 7, hi =>
            obtain rfl := Option.some.inj hi
            have p0 : Lst w' W1.heap.size (a.tmps.getD 20 undef) X := hpre ⟨6, .data⟩ (by simp) rfl
            refine .inl ⟨a.tmps.getD 20 undef, ?_, p0⟩
            simp [execOp, go_sem, Act.eval]
          | n + 8, hi => simp at hi
        · intro v w' hT hall
          have hX : Lst w' W1.heap.size (v 7) X := hall 7 (of_decide_eq_true (by kernel_rfl))
          clear hall
          simp only [List.length_cons, List.length_nil, Nat.zero_add, Nat.reduceAdd, List.range, List.range.loop, List.foldl_cons, List.foldl_nil, dstOf, List.getElem?_cons_zero, List.getElem?_cons_succ, Option.getD_some, Act.put, List.setIfInBounds_toArray, List.set_cons_succ, List.set_cons_zero]
          go_wp2
          go_ret
          exact ⟨_, rfl, hX.weak hB1.size, then_below hB1 hT⟩
    · go_enter Tryz.func74, Tryz.ntmps74
      go_wp2_with fail
      refine (HT.out _).mono ?_
      rintro e w2 ⟨u, rfl, hX, hB2⟩
      go_wp2
      go_ret
      exact ⟨_, rfl, hX.weak hB1.size, then_below hB1 hB2⟩

end Go.Proofs.YtbedhpooeabehaaGreatDoor

/-
  Small functions of layer 13's statements: the chapter's dimensions, a box of it, whether lists are the same, whether a box lies in another one, whether a machine is small; the chapter's first examples.
-/
import Derived.Test.YtjmfdpilmljppaaPart15
import Derived.Test.YtjmfdpilmljppaaPart5
namespace Go.Proofs.Ytjmfdpilmljppaa
open Go Go.RowKit Go.Shelf Go.Maps

attribute [local go_sem] Oper.semAt_some ext_const
attribute [local go_sem high] eq_box

set_option maxRecDepth 100000 in
theorem line_calls (w : World) : Calls Try.prog 9 #[] w fun e W' => e = .returned (A3 3 1 1) ∧ Below w.heap.size w W' := by
  have hB : Below w.heap.size w (w.alloc (.cells #[I 3, I 1, I 1] 26)) := (Below.refl _ w).alloc (Nat.le_refl _) _
  go_enter Try.func9, Try.ntmps9
  go_wp2
  exact bodyPost_ret (v := A3 3 1 1) (by simp [results, Try.f9, go_sem]) rfl ⟨rfl, hB⟩
set_option maxRecDepth 100000 in
theorem lineof_calls (a s : Int) (w : World) : Calls Try.prog 11 #[I a, I s] w fun e W' => e = .returned (B6 ⟨a, 0, 0, s, 1, 1⟩) ∧ Below w.heap.size w W' := by
  have hB : Below w.heap.size w (w.alloc (.cells (C6 ⟨a, 0, 0, s, 1, 1⟩) 32)) := (Below.refl _ w).alloc (Nat.le_refl _) _
  go_enter Try.func11, Try.ntmps11
  go_wp2
  exact bodyPost_ret (v := B6 ⟨a, 0, 0, s, 1, 1⟩) (by simp [results, Try.f11, go_sem]) rfl ⟨rfl, hB⟩

/-- Two lists are the same. -/
def sameX (xs ys : List Bx) : Bool := decide (xs.length = ys.length) && (List.range xs.length).all fun k => sameBx (xs.getD k zX) (ys.getD k zX)
theorem sameX_iff {xs ys : List Bx} : sameX xs ys = true ↔ xs = ys := by
  unfold sameX
  rw [Bool.and_eq_true, decide_eq_true_eq, List.all_eq_true]
  constructor
  · rintro ⟨hl, h⟩
    refine List.ext_getElem hl fun k h1 h2 => ?_
    have := (sameBx_iff _ _).1 (h k (List.mem_range.2 h1))
    simpa [h1, h2] using this
  · rintro rfl
    exact ⟨rfl, fun k _ => sameBx_self _⟩
theorem sameX_self (xs : List Bx) : sameX xs xs = true := sameX_iff.2 rfl

set_option maxRecDepth 100000 in
set_option maxHeartbeats 4000000 in
theorem sameX_calls {b1 b2 : Nat} {u v : Value} {xs ys : List Bx} (w : World) (hX : Lx w b1 u xs) (hY : Lx w b2 v ys) (hl : xs.length ≤ 1000000) :
    Calls Try.prog 19 #[u, v] w fun e W' => e = .returned (.bool (sameX xs ys)) ∧ Below w.heap.size w W' := by
  have mixed : Try.prog.follows .mixedOrders = true := by kernel_rfl
  obtain ⟨ao, cap, rfl, hX⟩ := hX.form
  obtain ⟨bo, cap2, rfl, hY⟩ := hY.form
  by_cases hne : xs.length = ys.length
  · have HR1 : Hid ((∀ k, k < xs.length → sameBx (xs.getD k zX) (ys.getD k zX) = true) → sameX xs ys = true) := fun h => by
      unfold sameX
      rw [decide_eq_true hne, Bool.true_and, List.all_eq_true]
      exact fun k hk => h k (List.mem_range.1 hk)
    have HR0 : Hid (∀ k, k < xs.length → sameBx (xs.getD k zX) (ys.getD k zX) = false → sameX xs ys = false) := fun k hk h => by
      unfold sameX
      rw [decide_eq_true hne, Bool.true_and, List.all_eq_false]
      exact ⟨k, List.mem_range.2 hk, by rw [h]; decide⟩
    have HY2 : Hid (Lx w b2 (.slice bo ys.length cap2) ys) := hY
    have HX2 : Hid (Lx w b1 (.slice ao xs.length cap) xs) := hX
    have HNe : Hid (ys.length = xs.length) := hne.symm
    clear hX hY
    rw [← hne]
    clear hne
    generalize sameX xs ys = ans at *
    go_enter Try.func19, Try.ntmps19
    go_wp2
    go_loopw [5] (fun i wr => ∃ (k : Nat), k ≤ xs.length ∧ i = .int .i64 k ∧ Hid (∀ j, j < k → sameBx (xs.getD j zX) (ys.getD j zX) = true) ∧ Hid (Below w.heap.size w wr)) (fun i _ => xs.length - (RowKit.intOf i).toNat)
    case atStart => exact ⟨0, by omega, rfl, fun j h => absurd h (Nat.not_lt_zero j), Below.refl _ _⟩
    case round =>
      obtain ⟨k, hk, rfl, HK, HB⟩ := hrel
      by_cases hlt : (k : Int) < (xs.length : Int)
      · have hk2 : k < xs.length := by omega
        obtain ⟨g1, rfl, hat1⟩ := (HX2.out.later HB.out).at hk2
        obtain ⟨g2, rfl, hat2⟩ := (HY2.out.later HB.out).at (k := k) (by rw [HNe.out]; exact hk2)
        obtain ⟨s, hs⟩ : ∃ s, sameBx (xs.getD k zX) (ys.getD k zX) = s := ⟨_, rfl⟩
        have HS0 : Hid (s = false → ans = false) := fun h => HR0.out k hk2 (hs.trans h)
        have HS1 : Hid (s = true → ∀ j, j < k + 1 → sameBx (xs.getD j zX) (ys.getD j zX) = true) := fun h j hj => by
          by_cases e : j = k
          · rw [e]; exact hs.trans h
          · exact HK.out j (by omega)
        generalize xs.getD k zX = bx at *
        generalize ys.getD k zX = cx at *
        have hE : Hid (sameBx ⟨bx.x, bx.y, bx.z, bx.a, bx.b, bx.c⟩ ⟨cx.x, cx.y, cx.z, cx.a, cx.b, cx.c⟩ = s) := hs
        obtain ⟨x0, x1, x2, x3, x4, x5⟩ := hat1.ext
        obtain ⟨y0, y1, y2, y3, y4, y5⟩ := hat2.ext
        clear hs hat1 hat2 HK
        go_wp2_with fail
        refine wp_region_look mixed (by kernel_rfl) ?_
        repeat (go_big_quiet_step (fail))
        refine wpQuiet_nil ?_
        intro X
        have HB2 : Hid (Below w.heap.size w X.wd) := HB.out.trans (X.le.mono HB.out.size)
        clear x0 x1 x2 x3 x4 x5 y0 y1 y2 y3 y4 y5 HB
        generalize X.wd = w3 at *
        clear X
        rw [hE.out]
        cases s
        · have HA : Hid (ans = false) := HS0.out rfl
          clear HS0 HS1 hE
          go_wp2
          go_ret
          exact ⟨by rw [HA.out]; rfl, HB2.out⟩
        · have HS2 := HS1.out rfl
          have HS2 : Hid (∀ j, j < k + 1 → sameBx (xs.getD j zX) (ys.getD j zX) = true) := HS2
          clear HS0 HS1 hE
          go_wp2
          exact ⟨⟨k + 1, by omega, by go_num, HS2.out, HB2.out⟩, by simp [RowKit.intOf]; omega⟩
      · obtain rfl : k = xs.length := by omega
        have HA : Hid (ans = true) := HR1.out HK.out
        clear HK
        go_wp2
        go_ret
        exact ⟨by rw [HA.out]; rfl, HB.out⟩
  · have hA : sameX xs ys = false := by
      unfold sameX
      rw [decide_eq_false hne, Bool.false_and]
    have hn1 : decide ((xs.length : Int) = (ys.length : Int)) = false := by
      rw [decide_eq_false_iff_not]; omega
    have hn2 : ((xs.length : Int) != (ys.length : Int)) = true := by
      simp only [bne_iff_ne, ne_eq]; omega
    rw [hA]
    clear hX hY hA hne
    go_enter Try.func19, Try.ntmps19
    go_wp2
    go_ret
    exact ⟨rfl, Below.refl _ _⟩

set_option maxRecDepth 100000 in
set_option maxHeartbeats 4000000 in
theorem lies_calls {d0 d1 d2 : Int} {a b : Bx} (w : World) (hd : mayD d0 d1 d2) (ha : mayB d0 d1 d2 a) (hb : mayB d0 d1 d2 b) :
    Calls Try.prog 21 #[A3 d0 d1 d2, B6 a, B6 b] w fun e W' => e = .returned (.bool (inB d0 d1 d2 a b)) ∧ Below w.heap.size w W' := by
  have HC : Hid (∀ w, Calls Try.prog 43 #[A3 d0 d1 d2, B6 a, B6 b] w fun e W' => e = .returned (.tuple #[.bool (inB d0 d1 d2 a b), I 0]) ∧ Below w.heap.size w W') := fun w => bwithin_ok w hd ha hb
  clear hd ha hb
  generalize inB d0 d1 d2 a b = ans at *
  obtain ⟨W, hW, hs, hB0, b0, b1, b2⟩ := three_start w #[I d0, I d1, I d2] (C6 a) (C6 b) 26 32 32
  have HW : Hid (((w.alloc (.cells #[I d0, I d1, I d2] 26)).alloc (.cells (C6 a) 32)).alloc (.cells (C6 b) 32) = W) := hW
  clear hW hs b0 b1 b2
  go_enter Try.func21, Try.ntmps21
  go_wp2_with fail
  rw [HW.out]
  refine (HC.out _).mono ?_
  rintro e w1 ⟨rfl, hB⟩
  have hT := then_below hB0 hB
  clear hB hB0 HW HC
  cases ans
  · go_wp2
    go_ret
    exact ⟨rfl, hT⟩
  · go_wp2
    go_ret
    exact ⟨rfl, hT⟩

/-- What the statements are about: machines that may not be, or of at most 20 midplanes, or of more than 64. -/
def smallG (d0 d1 d2 : Int) : Bool := !okDB d0 d1 d2 || (decide (d0 * d1 * d2 ≤ 20) || decide (64 < d0 * d1 * d2))
theorem smallG_no {d0 d1 d2 : Int} (h : ¬ mayD d0 d1 d2) : smallG d0 d1 d2 = true := by
  unfold smallG
  rw [okDB_no h]
  rfl
theorem smallG_yes {d0 d1 d2 : Int} (h : mayD d0 d1 d2) : smallG d0 d1 d2 = (decide (d0 * d1 * d2 ≤ 20) || decide (64 < d0 * d1 * d2)) := by
  unfold smallG
  rw [(okDB_iff _ _ _).2 h]
  rfl

set_option maxRecDepth 100000 in
set_option maxHeartbeats 4000000 in
theorem small13_calls (d0 d1 d2 : Int) (w : World) : Calls Try.prog 14 #[A3 d0 d1 d2] w fun e W' => e = .returned (.bool (smallG d0 d1 d2)) ∧ Below w.heap.size w W' := by
  have hB : Below w.heap.size w (w.alloc (.cells #[I d0, I d1, I d2] 26)) := (Below.refl _ w).alloc (Nat.le_refl _) _
  by_cases h0 : d0 < 1
  · have e := smallG_no (d0 := d0) (d1 := d1) (d2 := d2) (fun h => by have := h.1.1; omega)
    go_enter Try.func14, Try.ntmps14
    go_wp2
    refine wp_loop_rounds 1 ?_
    rw [rounds_succ]
    go_wp2
    go_ret
    exact ⟨by rw [e]; rfl, hB⟩
  · have g0 : decide (d0 < 1) = false := by simpa using h0
    by_cases h0' : 16 < d0
    · have e := smallG_no (d0 := d0) (d1 := d1) (d2 := d2) (fun h => by have := h.1.2; omega)
      go_enter Try.func14, Try.ntmps14
      go_wp2
      refine wp_loop_rounds 1 ?_
      rw [rounds_succ]
      go_wp2
      go_ret
      exact ⟨by rw [e]; rfl, hB⟩
    · have g0' : decide (16 < d0) = false := by simpa using h0'
      by_cases h1 : d1 < 1
      · have e := smallG_no (d0 := d0) (d1 := d1) (d2 := d2) (fun h => by have := h.2.1.1; omega)
        go_enter Try.func14, Try.ntmps14
        go_wp2
        refine wp_loop_rounds 2 ?_
        rw [rounds_succ]
        go_wp2
        rw [rounds_succ]
        go_wp2
        go_ret
        exact ⟨by rw [e]; rfl, hB⟩
      · have g1 : decide (d1 < 1) = false := by simpa using h1
        by_cases h1' : 16 < d1
        · have e := smallG_no (d0 := d0) (d1 := d1) (d2 := d2) (fun h => by have := h.2.1.2; omega)
          go_enter Try.func14, Try.ntmps14
          go_wp2
          refine wp_loop_rounds 2 ?_
          rw [rounds_succ]
          go_wp2
          rw [rounds_succ]
          go_wp2
          go_ret
          exact ⟨by rw [e]; rfl, hB⟩
        · have g1' : decide (16 < d1) = false := by simpa using h1'
          by_cases h2 : d2 < 1
          · have e := smallG_no (d0 := d0) (d1 := d1) (d2 := d2) (fun h => by have := h.2.2.1; omega)
            go_enter Try.func14, Try.ntmps14
            go_wp2
            refine wp_loop_rounds 3 ?_
            rw [rounds_succ]
            go_wp2
            rw [rounds_succ]
            go_wp2
            rw [rounds_succ]
            go_wp2
            go_ret
            exact ⟨by rw [e]; rfl, hB⟩
          · have g2 : decide (d2 < 1) = false := by simpa using h2
            by_cases h2' : 16 < d2
            · have e := smallG_no (d0 := d0) (d1 := d1) (d2 := d2) (fun h => by have := h.2.2.2; omega)
              go_enter Try.func14, Try.ntmps14
              go_wp2
              refine wp_loop_rounds 3 ?_
              rw [rounds_succ]
              go_wp2
              rw [rounds_succ]
              go_wp2
              rw [rounds_succ]
              go_wp2
              go_ret
              exact ⟨by rw [e]; rfl, hB⟩
            · have g2' : decide (16 < d2) = false := by simpa using h2'
              have hm : mayD d0 d1 d2 := ⟨⟨by omega, by omega⟩, ⟨by omega, by omega⟩, by omega, by omega⟩
              have HE : Hid (smallG d0 d1 d2 = (decide (d0 * d1 * d2 ≤ 20) || decide (64 < d0 * d1 * d2))) := smallG_yes hm
              have b1 : 1 ≤ d0 * d1 ∧ d0 * d1 ≤ 256 := by
                have q1 := Int.mul_le_mul (show d0 ≤ 16 by omega) (show d1 ≤ 16 by omega) (by omega) (by omega)
                have q2 := Int.mul_le_mul (show 1 ≤ d0 by omega) (show 1 ≤ d1 by omega) (by omega) (by omega)
                omega
              have b2 := N_bd hm
              clear hm
              by_cases hs : d0 * d1 * d2 ≤ 20
              · have hs1 : decide (d0 * d1 * d2 ≤ 20) = true := by simpa using hs
                go_enter Try.func14, Try.ntmps14
                go_wp2
                refine wp_loop_rounds 4 ?_
                rw [rounds_succ]
                go_wp2
                rw [rounds_succ]
                go_wp2
                rw [rounds_succ]
                go_wp2
                rw [rounds_succ]
                go_wp2
                go_ret
                exact ⟨by rw [HE.out, hs1, Bool.true_or]; rfl, hB⟩
              · have hs1 : decide (d0 * d1 * d2 ≤ 20) = false := by simpa using hs
                go_enter Try.func14, Try.ntmps14
                go_wp2
                refine wp_loop_rounds 4 ?_
                rw [rounds_succ]
                go_wp2
                rw [rounds_succ]
                go_wp2
                rw [rounds_succ]
                go_wp2
                rw [rounds_succ]
                go_wp2
                go_ret
                exact ⟨by rw [HE.out, hs1, Bool.false_or]; rfl, hB⟩


/-- A list that is written out. -/
theorem Lx.lit {W : World} {base g : Nat} {xs : List Bx} (hb : base ≤ g) (h : Blk W g 32 (flatX xs).toArray) (hl : xs.length ≤ 1000000) : Lx W base (.slice (some ⟨g, 0, none⟩) xs.length xs.length) xs :=
  ⟨flatX_len xs, .inr ⟨g, xs.length, (flatX xs).toArray, rfl, hb, h, Nat.le_refl _, by unfold maxLen; omega, by simp [flatX_len], by simp [← flatX_len]⟩⟩

theorem may311 : mayD 3 1 1 := ⟨⟨by decide, by decide⟩, ⟨by decide, by decide⟩, by decide, by decide⟩
theorem wordG_one {x : Nat} (h : x < 18446744073709551616) : ∀ y ∈ [x], y < 18446744073709551616 := by
  intro y hy
  simp at hy
  omega
theorem wdsG_one {W : World} {g x : Nat} (h : x < 18446744073709551616) (hb : Blk W g 28 #[U x]) : Wds W (.slice (some ⟨g, 0, none⟩) 1 1) [x] := wds_of_blk (ws := [x]) (wordG_one h) hb 1
abbrev lnX (a s : Int) : Bx := ⟨a, 0, 0, s, 1, 1⟩
set_option maxRecDepth 100000 in
theorem line_err : errF 3 1 1 [2] = 0 := by kernel_rfl
set_option maxRecDepth 100000 in
theorem line_free : freeV 3 1 1 [2] = [lnX 0 1, lnX 2 1, lnX 2 2] := by kernel_rfl
set_option maxRecDepth 100000 in
theorem line_most : mostV 3 1 1 [2] = [lnX 2 2] := by kernel_rfl

set_option maxRecDepth 100000 in
set_option maxHeartbeats 4000000 in
theorem alive13_calls (w : World) : Calls Try.prog 13 #[] w fun e W' => e = .returned (.bool true) ∧ Below w.heap.size w W' := by
  have HFr : Hid (∀ (w1 : World) (a : Nat), Blk w1 a 28 #[U 2] → Calls Try.prog 12 #[A3 3 1 1, .slice (some ⟨a, 0, none⟩) 1 1] w1 fun e W' => ∃ v, e = .returned (.tuple #[v, I 0]) ∧ Lx W' w1.heap.size v [lnX 0 1, lnX 2 1, lnX 2 2] ∧ Below w1.heap.size w1 W') := fun w1 a h => by
    have := gfree_calls 3 1 1 w1 (wdsG_one (by decide) h)
    rw [line_err, line_free] at this
    exact this
  have HMo : Hid (∀ (w1 : World) (a : Nat), Blk w1 a 28 #[U 2] → Calls Try.prog 16 #[A3 3 1 1, .slice (some ⟨a, 0, none⟩) 1 1] w1 fun e W' => ∃ v, e = .returned (.tuple #[v, I 0]) ∧ Lx W' w1.heap.size v [lnX 2 2] ∧ Below w1.heap.size w1 W') := fun w1 a h => by
    have := gmost_calls 3 1 1 w1 (wdsG_one (by decide) h)
    rw [line_err, line_most] at this
    exact this
  have HSm : Hid (∀ (w1 : World) (b1 b2 : Nat) (u v : Value) (xs : List Bx), xs.length ≤ 1000000 → Lx w1 b1 u xs → Lx w1 b2 v xs → Calls Try.prog 19 #[u, v] w1 fun e W' => e = .returned (.bool true) ∧ Below w1.heap.size w1 W') := fun w1 b1 b2 u v xs hl hX hY => by
    have := sameX_calls w1 hX hY hl
    rw [sameX_self] at this
    exact this
  go_enter Try.func13, Try.ntmps13
  go_wp2_with fail
  refine (line_calls _).mono ?_
  rintro e w1 ⟨rfl, hT⟩
  have hA1 : Below w1.heap.size w1 (w1.alloc (.cells #[.int .u64 2] 28)) := (Below.refl _ w1).alloc (Nat.le_refl _) _
  have kA1 := Blk.new w1 28 #[.int .u64 2]
  go_wp2_with fail
  refine (HFr.out _ _ kA1).mono ?_
  rintro e w2 ⟨v, rfl, hL, hB⟩
  replace hT := then_below (then_below hT hA1) hB
  clear hB hA1 kA1
  obtain ⟨ao, cap, rfl, hL⟩ := hL.form
  go_wp2_with fail
  refine (line_calls _).mono ?_
  rintro e w3 ⟨rfl, hB⟩
  replace hT := then_below hT hB
  replace hL := hL.later hB
  clear hB
  have hA1 : Below w3.heap.size w3 (w3.alloc (.cells #[.int .u64 2] 28)) := (Below.refl _ w3).alloc (Nat.le_refl _) _
  have kA1 := Blk.new w3 28 #[.int .u64 2]
  go_wp2_with fail
  refine (HMo.out _ _ kA1).mono ?_
  rintro e w4 ⟨v2, rfl, hM, hB⟩
  replace hT := then_below (then_below hT hA1) hB
  replace hL := (hL.later hA1).later hB
  clear hB hA1 kA1
  obtain ⟨ao2, cap2, rfl, hM⟩ := hM.form
  go_wp2_with fail
  refine (lineof_calls 0 1 _).mono ?_
  rintro e w5 ⟨rfl, hB⟩
  replace hT := then_below hT hB
  replace hL := hL.later hB
  replace hM := hM.later hB
  clear hB
  go_wp2_with fail
  refine (lineof_calls 2 1 _).mono ?_
  rintro e w6 ⟨rfl, hB⟩
  replace hT := then_below hT hB
  replace hL := hL.later hB
  replace hM := hM.later hB
  clear hB
  go_wp2_with fail
  refine (lineof_calls 2 2 _).mono ?_
  rintro e w7 ⟨rfl, hB⟩
  replace hT := then_below hT hB
  replace hL := hL.later hB
  replace hM := hM.later hB
  clear hB
  have hA : Below w7.heap.size w7 (w7.alloc (.cells (flatX [lnX 0 1, lnX 2 1, lnX 2 2]).toArray 32)) := (Below.refl _ w7).alloc (Nat.le_refl _) _
  have hY : Lx (w7.alloc (.cells (flatX [lnX 0 1, lnX 2 1, lnX 2 2]).toArray 32)) 0 (.slice (some ⟨w7.heap.size, 0, none⟩) 3 3) [lnX 0 1, lnX 2 1, lnX 2 2] := Lx.lit (Nat.zero_le _) (Blk.new _ _ _) (by decide)
  go_wp2_with fail
  refine (HSm.out _ _ _ _ _ [lnX 0 1, lnX 2 1, lnX 2 2] (by decide) (hL.later hA) hY).mono ?_
  rintro e w8 ⟨rfl, hB⟩
  replace hT := then_below (then_below hT hA) hB
  replace hM := (hM.later hA).later hB
  clear hB hA hY hL
  go_wp2_with fail
  refine (lineof_calls 2 2 _).mono ?_
  rintro e w9 ⟨rfl, hB⟩
  replace hT := then_below hT hB
  replace hM := hM.later hB
  clear hB
  have hA : Below w9.heap.size w9 (w9.alloc (.cells (flatX [lnX 2 2]).toArray 32)) := (Below.refl _ w9).alloc (Nat.le_refl _) _
  have hY : Lx (w9.alloc (.cells (flatX [lnX 2 2]).toArray 32)) 0 (.slice (some ⟨w9.heap.size, 0, none⟩) 1 1) [lnX 2 2] := Lx.lit (Nat.zero_le _) (Blk.new _ _ _) (by decide)
  go_wp2_with fail
  refine (HSm.out _ _ _ _ _ [lnX 2 2] (by decide) (hM.later hA) hY).mono ?_
  rintro e w10 ⟨rfl, hB⟩
  replace hT := then_below (then_below hT hA) hB
  clear hB hA hY hM
  go_wp2
  go_ret
  exact ⟨rfl, hT⟩

end Go.Proofs.Ytjmfdpilmljppaa

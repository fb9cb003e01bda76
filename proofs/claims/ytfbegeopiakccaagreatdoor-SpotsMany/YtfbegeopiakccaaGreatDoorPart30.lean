/-
  Small functions of layer 12's statements: the chapter's dimensions, shapes, how many; the chapter's first examples.
-/
import Derived.Test.YtfbegeopiakccaaGreatDoorSpotsAll
import Derived.Test.YtfbegeopiakccaaGreatDoorPart7
import Derived.Test.YtfbegeopiakccaaGreatDoorPart10
import Derived.Test.YtfbegeopiakccaaGreatDoorPart8
namespace Go.Proofs.YtfbegeopiakccaaGreatDoor
open Go Go.RowKit Go.Shelf Go.Maps

attribute [local go_sem] Oper.semAt_some ext_const ixI0 ixI1 ixI2

set_option maxRecDepth 100000 in
theorem some12_calls (w : World) : Calls Tryz.prog 9 #[] w fun e W' => e = .returned (A3 3 2 1) ∧ Below w.heap.size w W' := by
  have hB : Below w.heap.size w (w.alloc (.cells #[I 3, I 2, I 1] 27)) := (Below.refl _ w).alloc (Nat.le_refl _) _
  go_enter Tryz.func9, Tryz.ntmps9
  go_wp2
  exact bodyPost_ret (v := A3 3 2 1) (by simp [results, Tryz.f9, go_sem]) rfl ⟨rfl, hB⟩
set_option maxRecDepth 100000 in
theorem shaped12_calls (a b c : Int) (t : Bool) (w : World) : Calls Tryz.prog 10 #[I a, I b, I c, .bool t] w fun e W' => e = .returned (V7 a b c false false false t) ∧ Below w.heap.size w W' := by
  have hB : Below w.heap.size w (w.alloc (.cells (cells7 a b c false false false t) 31)) := (Below.refl _ w).alloc (Nat.le_refl _) _
  go_enter Tryz.func10, Tryz.ntmps10
  go_wp2
  exact bodyPost_ret (v := V7 a b c false false false t) (by simp [results, Tryz.f10, go_sem]) rfl ⟨rfl, hB⟩

theorem may321 : mayD 3 2 1 := ⟨⟨by decide, by decide⟩, ⟨by decide, by decide⟩, by decide, by decide⟩
set_option maxRecDepth 100000 in
set_option maxHeartbeats 1000000 in
theorem many12_calls {x y z : Int} {t : Bool} {n : Int} (w : World) (hO : OrdOk w) (hm : mayD x y z) (hn : (placesL 3 2 1 (x, y, z, false, false, false, t)).length = n) :
    Calls Tryz.prog 12 #[V7 x y z false false false t, I n] w fun e W' => e = .returned (.bool true) ∧ Below w.heap.size w W' := by
  have mixed : Tryz.prog.follows .mixedOrders = true := by kernel_rfl
  have HM := fun (w1 : World) (h1 : OrdOk w1) => smany_yes (u := (x, y, z, false, false, false, t)) w1 h1 may321 (mayT_D.2 hm)
  rw [hn] at HM
  have hB : Below w.heap.size w (w.alloc (.cells (cells7 x y z false false false t) 31)) := (Below.refl _ w).alloc (Nat.le_refl _) _
  have HOX : ∀ X : Ext (w.alloc (.cells (cells7 x y z false false false t) 31)), OrdOk X.wd := fun X => (hO.later hB).later X.le
  have kk1 := Blk.new w 31 (cells7 x y z false false false t)
  have x0 := Ext.cell kk1 0
  have x1 := Ext.cell kk1 1
  have x2 := Ext.cell kk1 2
  have x3 := Ext.cell kk1 3
  have x4 := Ext.cell kk1 4
  have x5 := Ext.cell kk1 5
  have x6 := Ext.cell kk1 6
  simp [cells7] at x0 x1 x2 x3 x4 x5 x6
  have HM : Hid (∀ (w1 : World), OrdOk w1 → Calls Tryz.prog 17 #[A3 3 2 1, V7 x y z false false false t] w1 fun e W' => e = .returned (.tuple #[I n, I 0]) ∧ Below w1.heap.size w1 W') := HM
  clear hn hm kk1 hO
  go_enter Tryz.func12, Tryz.ntmps12
  go_wp2_with fail
  refine wp_region_look mixed (by kernel_rfl) ?_
  repeat (go_big_quiet_step (first | (go_at_call 9; exact calls_ext (some12_calls _)) | (go_at_call 17; exact calls_ext (HM.out _ (HOX _)))))
  refine wpQuiet_nil ?_
  intro X
  go_wp2
  go_ret
  exact ⟨rfl, then_below hB X.le⟩

set_option maxRecDepth 100000 in
theorem len111 : ((placesL 3 2 1 (1, 1, 1, false, false, false, false)).length : Int) = 6 := by kernel_rfl
set_option maxRecDepth 100000 in
theorem len311 : ((placesL 3 2 1 (3, 1, 1, false, false, false, false)).length : Int) = 2 := by kernel_rfl
set_option maxRecDepth 100000 in
theorem len211 : ((placesL 3 2 1 (2, 1, 1, false, false, false, false)).length : Int) = 6 := by kernel_rfl
set_option maxRecDepth 100000 in
theorem len211t : ((placesL 3 2 1 (2, 1, 1, false, false, false, true)).length : Int) = 9 := by kernel_rfl
set_option maxRecDepth 100000 in
theorem len411 : ((placesL 3 2 1 (4, 1, 1, false, false, false, false)).length : Int) = 0 := by kernel_rfl
theorem mayx (a : Int) (h : 1 ≤ a ∧ a ≤ 16) : mayD a 1 1 := ⟨h, ⟨by decide, by decide⟩, by decide, by decide⟩

set_option maxRecDepth 100000 in
set_option maxHeartbeats 2000000 in
theorem alive12_calls (w : World) (hO : OrdOk w) : Calls Tryz.prog 11 #[] w fun e W' => e = .returned (.bool true) ∧ Below w.heap.size w W' := by
  have HO : Hid (OrdOk w) := hO
  have HS : Hid (∀ (a : Int) (t : Bool) (w1 : World), Calls Tryz.prog 10 #[I a, I 1, I 1, .bool t] w1 fun e W' => e = .returned (V7 a 1 1 false false false t) ∧ Below w1.heap.size w1 W') := fun a t w1 => shaped12_calls a 1 1 t w1
  have M1 : Hid (∀ w1, OrdOk w1 → Calls Tryz.prog 12 #[V7 1 1 1 false false false false, I 6] w1 fun e W' => e = .returned (.bool true) ∧ Below w1.heap.size w1 W') := fun w1 h => many12_calls w1 h (mayx 1 (by decide)) len111
  have M2 : Hid (∀ w1, OrdOk w1 → Calls Tryz.prog 12 #[V7 3 1 1 false false false false, I 2] w1 fun e W' => e = .returned (.bool true) ∧ Below w1.heap.size w1 W') := fun w1 h => many12_calls w1 h (mayx 3 (by decide)) len311
  have M3 : Hid (∀ w1, OrdOk w1 → Calls Tryz.prog 12 #[V7 2 1 1 false false false false, I 6] w1 fun e W' => e = .returned (.bool true) ∧ Below w1.heap.size w1 W') := fun w1 h => many12_calls w1 h (mayx 2 (by decide)) len211
  have M4 : Hid (∀ w1, OrdOk w1 → Calls Tryz.prog 12 #[V7 2 1 1 false false false true, I 9] w1 fun e W' => e = .returned (.bool true) ∧ Below w1.heap.size w1 W') := fun w1 h => many12_calls w1 h (mayx 2 (by decide)) len211t
  clear hO
  go_enter Tryz.func11, Tryz.ntmps11
  go_wp2_with fail
  refine (HS.out 1 false _).mono ?_
  rintro e w1 ⟨rfl, hB⟩
  have hT := hB
  clear hB
  go_wp2_with fail
  refine (M1.out _ (HO.out.later hT)).mono ?_
  rintro e w2 ⟨rfl, hB⟩
  replace hT := then_below hT hB
  clear hB
  go_wp2_with fail
  refine (HS.out 3 false _).mono ?_
  rintro e w3 ⟨rfl, hB⟩
  replace hT := then_below hT hB
  clear hB
  go_wp2_with fail
  refine (M2.out _ (HO.out.later hT)).mono ?_
  rintro e w4 ⟨rfl, hB⟩
  replace hT := then_below hT hB
  clear hB
  go_wp2_with fail
  refine (HS.out 2 false _).mono ?_
  rintro e w5 ⟨rfl, hB⟩
  replace hT := then_below hT hB
  clear hB
  go_wp2_with fail
  refine (M3.out _ (HO.out.later hT)).mono ?_
  rintro e w6 ⟨rfl, hB⟩
  replace hT := then_below hT hB
  clear hB
  go_wp2_with fail
  refine (HS.out 2 true _).mono ?_
  rintro e w7 ⟨rfl, hB⟩
  replace hT := then_below hT hB
  clear hB
  go_wp2_with fail
  refine (M4.out _ (HO.out.later hT)).mono ?_
  rintro e w8 ⟨rfl, hB⟩
  replace hT := then_below hT hB
  clear hB
  go_wp2
  go_ret
  exact ⟨rfl, hT⟩

end Go.Proofs.YtfbegeopiakccaaGreatDoor

/-
  What All answers, whatever it is handed; whether a machine is small.
-/
namespace Go.Proofs.YtfbegeopiakccaaGreatDoor
open Go Go.RowKit Go.Shelf Go.Maps

attribute [local go_sem] Oper.semAt_some ext_const ixI0 ixI1 ixI2

/-- What All answers. -/
def alE (d0 d1 d2 : Int) (u : Wt) (mw lw : List Nat) : Int := if okDB d0 d1 d2 && okDB u.1 u.2.1 u.2.2.1 then (if mayW (d0 * d1 * d2).toNat mw lw then 0 else 8) else 8
def alL (d0 d1 d2 : Int) (u : Wt) (mw lw : List Nat) : List Pl := if alE d0 d1 d2 u mw lw = 0 then clearT d0 d1 d2 (turnsT u) mw lw else []
theorem mayT_ok {u : Wt} : mayT u ↔ okDB u.1 u.2.1 u.2.2.1 = true := by
  obtain ⟨x, y, z, p, q, r, t⟩ := u
  rw [okDB_iff]
  exact mayT_D
theorem alE_cases (d0 d1 d2 : Int) (u : Wt) (mw lw : List Nat) : (mayD d0 d1 d2 ∧ mayT u ∧ mayW (d0 * d1 * d2).toNat mw lw = true ∧ alE d0 d1 d2 u mw lw = 0) ∨ alE d0 d1 d2 u mw lw = 8 := by
  unfold alE
  cases h1 : okDB d0 d1 d2
  · exact .inr rfl
  · cases h2 : okDB u.1 u.2.1 u.2.2.1
    · exact .inr rfl
    · cases h3 : mayW (d0 * d1 * d2).toNat mw lw
      · exact .inr rfl
      · exact .inl ⟨(okDB_iff _ _ _).1 h1, mayT_ok.2 h2, rfl, rfl⟩
theorem sall_calls {d0 d1 d2 : Int} {u : Wt} {vm vl : Value} {mw lw : List Nat} (w : World) (hO : OrdOk w) (hM : Wds w vm mw) (hL : Wds w vl lw) :
    Calls Tryz.prog 8 #[A3 d0 d1 d2, W7 u, vm, vl] w fun e W' => ∃ v, e = .returned (.tuple #[v, I (alE d0 d1 d2 u mw lw)]) ∧ Lp W' w.heap.size v (alL d0 d1 d2 u mw lw) ∧ Below w.heap.size w W' := by
  by_cases h : mayD d0 d1 d2 ∧ mayT u
  · have h1 := (okDB_iff _ _ _).2 h.1
    have h2 := mayT_ok.1 h.2
    cases h3 : mayW (d0 * d1 * d2).toNat mw lw
    · have e : alE d0 d1 d2 u mw lw = 8 := by simp [alE, h1, h2, h3]
      refine (sall_bad w h.1 h.2 hM hL h3).mono ?_
      rintro x W' ⟨rfl, hB⟩
      exact ⟨_, by rw [e], by rw [alL, if_neg (by rw [e]; decide)]; exact Lp.nil _ _, hB⟩
    · have e : alE d0 d1 d2 u mw lw = 0 := by simp [alE, h1, h2, h3]
      refine (sall_yes w hO h.1 h.2 hM hL h3).mono ?_
      rintro x W' ⟨v, rfl, hv, hB⟩
      exact ⟨v, by rw [e], by rw [alL, if_pos e]; exact hv, hB⟩
  · have e : alE d0 d1 d2 u mw lw = 8 := by
      unfold alE
      rw [if_neg]
      intro hh
      rw [Bool.and_eq_true] at hh
      exact h ⟨(okDB_iff _ _ _).1 hh.1, mayT_ok.2 hh.2⟩
    refine (sall_no w h).mono ?_
    rintro x W' ⟨rfl, hB⟩
    exact ⟨_, by rw [e], by rw [alL, if_neg (by rw [e]; decide)]; exact Lp.nil _ _, hB⟩
theorem al_len {d0 d1 d2 : Int} {u : Wt} {mw lw : List Nat} : (alL d0 d1 d2 u mw lw).length ≤ 24576 := by
  unfold alL
  split
  · rename_i h
    rcases alE_cases d0 d1 d2 u mw lw with ⟨h1, h2, _⟩ | h8
    · have a := clear_le (d0 := d0) (d1 := d1) (d2 := d2) (turnsT u) mw lw
      have b := places_len h1 h2
      rw [← every_len h1 (turns_all h2)] at b
      have c := places_bd h1 h2
      omega
    · rw [h8] at h; exact absurd h (by decide)
  · simp

/-- Whether a machine has at most 64 midplanes, if it may be. -/
def smB (d0 d1 d2 : Int) : Bool := if okDB d0 d1 d2 then decide (d0 * d1 * d2 ≤ 64) else true
theorem smB_no {d0 d1 d2 : Int} (h : ¬ mayD d0 d1 d2) : smB d0 d1 d2 = true := by
  unfold smB
  rw [if_neg (fun e => h ((okDB_iff _ _ _).1 e))]
theorem smB_yes {d0 d1 d2 : Int} (h : mayD d0 d1 d2) : smB d0 d1 d2 = decide (d0 * d1 * d2 ≤ 64) := by
  unfold smB
  rw [if_pos ((okDB_iff _ _ _).2 h)]

set_option maxRecDepth 100000 in
set_option maxHeartbeats 4000000 in
theorem small12_calls (d0 d1 d2 : Int) (w : World) : Calls Tryz.prog 13 #[A3 d0 d1 d2] w fun e W' => e = .returned (.bool (smB d0 d1 d2)) ∧ Below w.heap.size w W' := by
  have hB : Below w.heap.size w (w.alloc (.cells #[I d0, I d1, I d2] 27)) := (Below.refl _ w).alloc (Nat.le_refl _) _
  by_cases h0 : d0 < 1
  · have e := smB_no (d0 := d0) (d1 := d1) (d2 := d2) (fun h => by have := h.1.1; omega)
    go_enter Tryz.func13, Tryz.ntmps13
    go_wp2
    refine wp_loop_rounds 1 ?_
    rw [rounds_succ]
    go_wp2
    go_ret
    exact ⟨by rw [e]; rfl, hB⟩
  · have g0 : decide (d0 < 1) = false := by simpa using h0
    by_cases h0' : 16 < d0
    · have e := smB_no (d0 := d0) (d1 := d1) (d2 := d2) (fun h => by have := h.1.2; omega)
      go_enter Tryz.func13, Tryz.ntmps13
      go_wp2
      refine wp_loop_rounds 1 ?_
      rw [rounds_succ]
      go_wp2
      go_ret
      exact ⟨by rw [e]; rfl, hB⟩
    · have g0' : decide (16 < d0) = false := by simpa using h0'
      by_cases h1 : d1 < 1
      · have e := smB_no (d0 := d0) (d1 := d1) (d2 := d2) (fun h => by have := h.2.1.1; omega)
        go_enter Tryz.func13, Tryz.ntmps13
        go_wp2
        refine wp_loop_rounds 2 ?_
        rw [rounds_succ]
        go_wp2
        rw [rounds_succ]
        go_wp2
        go_ret
        exact ⟨by rw [e]; rfl, hB⟩
      · have g1 : decide (d1 < 1) = false := by simpa using h1
        by_cases h1' : 16 < d1
        · have e := smB_no (d0 := d0) (d1 := d1) (d2 := d2) (fun h => by have := h.2.1.2; omega)
          go_enter Tryz.func13, Tryz.ntmps13
          go_wp2
          refine wp_loop_rounds 2 ?_
          rw [rounds_succ]
          go_wp2
          rw [rounds_succ]
          go_wp2
          go_ret
          exact ⟨by rw [e]; rfl, hB⟩
        · have g1' : decide (16 < d1) = false := by simpa using h1'
          by_cases h2 : d2 < 1
          · have e := smB_no (d0 := d0) (d1 := d1) (d2 := d2) (fun h => by have := h.2.2.1; omega)
            go_enter Tryz.func13, Tryz.ntmps13
            go_wp2
            refine wp_loop_rounds 3 ?_
            rw [rounds_succ]
            go_wp2
            rw [rounds_succ]
            go_wp2
            rw [rounds_succ]
            go_wp2
            go_ret
            exact ⟨by rw [e]; rfl, hB⟩
          · have g2 : decide (d2 < 1) = false := by simpa using h2
            by_cases h2' : 16 < d2
            · have e := smB_no (d0 := d0) (d1 := d1) (d2 := d2) (fun h => by have := h.2.2.2; omega)
              go_enter Tryz.func13, Tryz.ntmps13
              go_wp2
              refine wp_loop_rounds 3 ?_
              rw [rounds_succ]
              go_wp2
              rw [rounds_succ]
              go_wp2
              rw [rounds_succ]
              go_wp2
              go_ret
              exact ⟨by rw [e]; rfl, hB⟩
            · have g2' : decide (16 < d2) = false := by simpa using h2'
              have hm : mayD d0 d1 d2 := ⟨⟨by omega, by omega⟩, ⟨by omega, by omega⟩, by omega, by omega⟩
              have e := smB_yes hm
              have HE : Hid (smB d0 d1 d2 = decide (d0 * d1 * d2 ≤ 64)) := e
              have b1 : 1 ≤ d0 * d1 ∧ d0 * d1 ≤ 256 := by
                have q1 := Int.mul_le_mul (show d0 ≤ 16 by omega) (show d1 ≤ 16 by omega) (by omega) (by omega)
                have q2 := Int.mul_le_mul (show 1 ≤ d0 by omega) (show 1 ≤ d1 by omega) (by omega) (by omega)
                omega
              have b2 := N_bd hm
              clear e hm
              go_enter Tryz.func13, Tryz.ntmps13
              go_wp2
              refine wp_loop_rounds 4 ?_
              rw [rounds_succ]
              go_wp2
              rw [rounds_succ]
              go_wp2
              rw [rounds_succ]
              go_wp2
              rw [rounds_succ]
              go_wp2
              go_ret
              exact ⟨by rw [HE.out]; rfl, hB⟩

end Go.Proofs.YtfbegeopiakccaaGreatDoor

/-
  What SpotsMany asks of the list of places, without a program.
-/
namespace Go.Proofs.YtfbegeopiakccaaGreatDoor
open Go Go.RowKit Go.Shelf Go.Maps

theorem has_none (n k : Nat) : hasW (List.replicate n 0) k = false := by
  unfold hasW
  by_cases h : k / 64 < n
  · simp [h]
  · simp [h]
theorem may_none {n : Nat} (ws : Nat) (h : ws = (n + 63) / 64) : maySet n (List.replicate ws 0) = true := mayS_iff.2 ⟨by simpa using h, fun k _ => has_none _ _⟩
/-- The set of the numbers below k, put in one by one. -/
def upTo (ws : Nat) (k : Nat) : List Nat := (List.range k).foldl putW (List.replicate ws 0)
theorem upTo_succ (ws k : Nat) : upTo ws (k + 1) = putW (upTo ws k) k := by simp [upTo, List.range_succ]
theorem upTo_len (ws : Nat) : ∀ k, (upTo ws k).length = ws
  | 0 => by simp [upTo]
  | k + 1 => by rw [upTo_succ, putW_len, upTo_len ws k]
theorem upTo_has {ws : Nat} : ∀ {k : Nat}, k ≤ 64 * ws → ∀ j, hasW (upTo ws k) j = decide (j < k)
  | 0, _, j => by simp [upTo, has_none]
  | k + 1, hk, j => by
    rw [upTo_succ, hasW_put (by rw [upTo_len]; omega), upTo_has (by omega)]
    by_cases h : j < k
    · simp [h]; omega
    · by_cases e : j = k
      · simp [e]
      · simp [h, e]; omega
theorem upTo_may {n ws : Nat} (h : ws = (n + 63) / 64) : maySet n (upTo ws n) = true := mayS_iff.2 ⟨by rw [upTo_len]; exact h, fun k hk => by rw [upTo_has (by omega)]; simpa using hk⟩

/-- With nothing to be avoided as many are listed as there are. -/
theorem all_many {d0 d1 d2 : Int} {u : Wt} (h : mayD d0 d1 d2) (hu : mayT u) (a b : Nat) : (clearT d0 d1 d2 (turnsT u) (List.replicate a 0) (List.replicate b 0)).length = (placesL d0 d1 d2 u).length := by
  have h1 := places_len h hu
  rw [← every_len h (turns_all hu)] at h1
  rw [clear_zero (has_none a) (has_none b)]
  omega
/-- With everything to be avoided there is none. -/
theorem none_many {d0 d1 d2 : Int} {u : Wt} (h : mayD d0 d1 d2) (hu : mayT u) {ws : Nat} (hw : (d0 * d1 * d2).toNat ≤ 64 * ws) (lw : List Nat) : clearT d0 d1 d2 (turnsT u) (upTo ws (d0 * d1 * d2).toNat) lw = [] :=
  clear_none h (turns_all hu) fun k hk => by rw [upTo_has hw]; simpa using hk
/-- There are some just if a rotation fits. -/
theorem fits_many {d0 d1 d2 : Int} {u : Wt} (h : mayD d0 d1 d2) (hu : mayT u) : fitsT (d0, d1, d2) u = decide (0 < ((placesL d0 d1 d2 u).length : Int)) := by
  rw [many_some h (turns_all hu), places_len h hu]

end Go.Proofs.YtfbegeopiakccaaGreatDoor

/-
  As Loud, where an operation itself may make memory too (a slice written out).
-/
namespace Go.Proofs.YtfbegeopiakccaaGreatDoor
open Go Go.RowKit Go.Shelf

section
variable {F : Fence} {n : Nat} {P : Program}

/-- What an operation comes to: a value, or a value and new memory, or a call. -/
def Comes2 (P : Program) (o : Oper) (a : Act) (w : World) (R : Value → World → Prop) : Prop :=
  (∃ v w', (execOp a.eval o).run P w = .ok (.value v) w' ∧ Below w.heap.size w w' ∧ R v w') ∨ (∃ f args, (execOp a.eval o).run P w = .ok (.enter f args) w ∧ Calls P f args w fun e w' => ∃ v, e = .returned v ∧ Below w.heap.size w w' ∧ R v w')

variable {l : List Oper} {a0 : Act} {w0 : World} {Q : Exit → Act → World → Prop} {S : Nat → Value → World → Prop}

theorem any_loud2 (hF : Loose F P) (hB : soloB l a0.tmps.size = true)
    (hS : ∀ i v w w', S i v w → Below w.heap.size w w' → S i v w')
    (hop : ∀ (i : Nat) (o : Oper), l[i]? = some o → ∀ (a : Act) (w : World), Below w0.heap.size w0 w → Like l a0 a → (∀ e ∈ o.after, Region.binds .any e = true → S e.on (slot l a e.on) w) → Comes2 P o a w (S i))
    (hend : ∀ (a : Act) (w : World), Below w0.heap.size w0 w → Like l a0 a → (∀ i, i < l.length → S i (slot l a i) w) → Q .normal a w) :
    ∀ (f : Nat) (L : Array Bool) (a : Act) (w : World), L.size = l.length → L.toList.count false ≤ f → Below w0.heap.size w0 w → Like l a0 a → (∀ i, L.getD i false = true → S i (slot l a i) w) → wpAnyIn F n P .any l.toArray Q f L a w := by
  have hbeg : beginB l l.length = true := (Bool.and_eq_true_iff.1 hB).2
  have hnd : noDefer l.toArray = true := (Bool.and_eq_true_iff.1 (Bool.and_eq_true_iff.1 hB).1).2
  have htake : l.take l.length = l := List.take_length
  have fin : ∀ (L : Array Bool) (a : Act) (w : World), L.size = l.length → Region.ready .any l.toArray L = [] → Below w0.heap.size w0 w → Like l a0 a → (∀ i, L.getD i false = true → S i (slot l a i) w) → Q .normal a w := by
    intro L a w hs hr hT hL hA
    have hfull := full_of_none (l := l) (m := l.length) hbeg hs (by rw [htake]; exact hr)
    refine hend a w hT hL fun i hi => hA i ?_
    rw [hfull]
    simp [Array.getD, hi]
  intro f
  induction f with
  | zero =>
    intro L a w hs hc hT hL hA
    have hall : Region.ready .any l.toArray L = [] := by
      apply List.eq_nil_iff_forall_not_mem.2
      intro i hi
      obtain ⟨h1, _⟩ := mem_ready.1 hi
      have h0 : L.toList.count false = 0 := by omega
      rw [List.count_eq_zero] at h0
      refine h0 ?_
      by_cases hlt : i < L.size
      · rw [Array.getD, dif_pos hlt] at h1
        rw [← h1]
        exact Array.getElem_mem_toList hlt
      · rw [Array.getD, dif_neg hlt] at h1; cases h1
    exact ⟨hall, fin L a w hs hall hT hL hA⟩
  | succ f ih =>
    intro L a w hs hc hT hL hA
    refine ⟨fun hr => fin L a w hs hr hT hL hA, fun i hi => ?_⟩
    obtain ⟨h1, o, ho, hall⟩ := mem_ready.1 hi
    have hol : l[i]? = some o := by simpa using ho
    have hil : i < l.length := (List.getElem?_eq_some_iff.1 hol).1
    obtain ⟨hg, hd, hlt, hne⟩ := solo_at hB hol
    have hcome := hop i o hol a w hT hL (fun e he hb => hA e.on (hall e he hb))
    have hnot : L.toList[i]? = some false := by
      have hlt' : i < L.size := by omega
      rw [Array.getD, dif_pos hlt'] at h1
      rw [Array.getElem?_toList, Array.getElem?_eq_getElem hlt']
      exact congrArg some h1
    have hnext : ∀ (v : Value) (w' : World), Below w.heap.size w w' → S i v w' → wpAnyIn F n P .any l.toArray Q f (L.setIfInBounds i true) (a.put o.dst v) w' := by
      intro v w' hB' hv
      rw [hd]
      refine ih _ _ w' (by simpa using hs) ?_ (then_below hT hB') ⟨?_, ?_, ?_⟩ ?_
      · have := count_set L.toList i hnot
        rw [Array.toList_setIfInBounds]
        omega
      · simp [Act.put]; exact hL.size
      · simp [Act.put]; exact hL.defers
      · intro t ht
        rw [put_ne (ht i hil)]
        exact hL.out t ht
      · intro j hj
        by_cases hij : j = i
        · subst hij
          show S j ((a.put (some (dstOf l j)) v).tmps.getD (dstOf l j) undef) w'
          rw [put_at (by rw [hL.size]; exact hlt)]
          exact hv
        · have hjl : L.getD j false = true := by
            rw [Array.getD_eq_getD_getElem?, Array.getElem?_setIfInBounds_ne (Ne.symm hij), ← Array.getD_eq_getD_getElem?] at hj
            exact hj
          have hjlt : j < l.length := by
            rcases Nat.lt_or_ge j L.size with h | h
            · omega
            · rw [Array.getD, dif_neg (by omega)] at hjl; cases hjl
          show S j ((a.put (some (dstOf l i)) v).tmps.getD (dstOf l j) undef) w'
          rw [getD_ne (hne j hjlt hij)]
          exact hS _ _ _ _ (hA j hjl) hB'
    have hfn : ∀ f, o.about P w a.eval = some f → F.fn f := fun f _ => hF.fn f
    simp only [wpOpIn, ho, Region.wanted, hg, if_true]
    refine ⟨hfn, ?_⟩
    rw [Oper.semAt_eq _ _ _ (noDefer_spec hnd ho)]
    rcases hcome with ⟨v, w', e, hB', hv⟩ | ⟨g, args, e, hc'⟩
    · rw [e]; exact hnext v w' hB' hv
    · rw [e]
      refine ⟨fun hx => (hF.depth hx).elim, hF.calls _ _ _ _ _ (hc'.mono ?_)⟩
      rintro x w' ⟨v, rfl, hB', hv⟩
      exact hnext v w' hB' hv

/-- In whatever order: each operation's word holds at the end. -/
theorem wp_region_loud2 {id : Nat} (S : Nat → Value → World → Prop) (hm : P.follows .mixedOrders = true) (hB : soloB l a0.tmps.size = true)
    (hS : ∀ i v w w', S i v w → Below w.heap.size w w' → S i v w')
    (hop : ∀ (i : Nat) (o : Oper), l[i]? = some o → ∀ (a : Act) (w : World), Below w0.heap.size w0 w → Like l a0 a → (∀ e ∈ o.after, Region.binds .any e = true → S e.on (slot l a e.on) w) → Comes2 P o a w (S i))
    (hend : ∀ (v : Nat → Value) (w : World), Below w0.heap.size w0 w → (∀ i, i < l.length → S i (v i) w) → Q .normal ((List.range l.length).foldl (fun b i => b.put (some (dstOf l i)) (v i)) a0) w) :
    (Code.region id l.toArray true).wp P Q a0 w0 := by
  refine (wpIn_wide (n := 0)).1 (wpIn_region_any hm ?_)
  refine any_loud2 (loose_wide P) hB hS hop (fun a w hT hL hA => ?_) _ _ _ _ (by simp) (by simp) ((Below.refl _ w0).drew) ⟨rfl, rfl, fun _ _ => rfl⟩ (fun i hi => ?_)
  · rw [like_puts hL]
    exact hend (slot l a) w hT hA
  · exfalso
    rw [Array.getD_eq_getD_getElem?] at hi
    simp [Array.getElem?_replicate] at hi
    split at hi <;> simp at hi
end
end Go.Proofs.YtfbegeopiakccaaGreatDoor

/-
  The document's answers of one set (tidehallref03.List, Has, Many); whether two lists are the same (tidehallref02.Ints).
-/
namespace Go.Proofs.YtfbegeopiakccaaGreatDoor
open Go Go.RowKit Go.Shelf

attribute [local go_sem] Oper.semAt_some ext_const

end Go.Proofs.YtfbegeopiakccaaGreatDoor

/-
  The chapter's first examples (the statements' 'alive').
-/
namespace Go.Proofs.YtfbegeopiakccaaGreatDoor
open Go Go.RowKit Go.Shelf

theorem alive_err : errAll 70 [[8, 32]] = 0 := by decide +kernel
theorem alive_list : listR 70 [8, 32] = [3, 69] := by decide +kernel
theorem alive_of : ofErr 70 [3, 69, 3] = 0 := by decide +kernel
theorem alive_ok : ofOk 70 [3, 69, 3] = true := by decide +kernel
theorem alive_bits : ∀ k, k < 128 → hasW [8, 32] k = inL [3, 69, 3] k := by decide +kernel
theorem alive_set {ws : List Nat} (h : OfIs 70 [3, 69, 3] ws) : ws = [8, 32] := by
  refine (h.yes alive_ok).ext ⟨rfl, fun x hx => ?_, fun k => ?_⟩
  · simp at hx
    rcases hx with rfl | rfl <;> decide
  · by_cases hk : k < 128
    · exact alive_bits k hk
    · rw [hasW_past (by simp; omega)]
      unfold inL
      symm
      rw [Bool.eq_false_iff]
      intro hc
      simp at hc
      omega

theorem its_of_blk {W : World} {g : Nat} {xs : List Int} {t : TypeId} (h : Blk W g t (xs.map I).toArray) (cap : Nat) : Its W (.slice (some ⟨g, 0, none⟩) xs.length cap) xs := by
  have := Sl.blk h cap
  rw [List.length_map] at this
  exact this
theorem wds_of_blk {W : World} {g : Nat} {ws : List Nat} {t : TypeId} (hw : ∀ x ∈ ws, x < 18446744073709551616) (h : Blk W g t (ws.map U).toArray) (cap : Nat) : Wds W (.slice (some ⟨g, 0, none⟩) ws.length cap) ws := by
  have := Sl.blk h cap
  rw [List.length_map] at this
  exact ⟨hw, this⟩

end Go.Proofs.YtfbegeopiakccaaGreatDoor

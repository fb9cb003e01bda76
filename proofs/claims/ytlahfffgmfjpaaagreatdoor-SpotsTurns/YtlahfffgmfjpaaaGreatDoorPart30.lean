/-
  Small functions of layer 12's statements: the chapter's dimensions, shapes, how many; the chapter's first examples.
-/
import Derived.Test.YtlahfffgmfjpaaaGreatDoorSpotsAll
import Derived.Test.YtlahfffgmfjpaaaGreatDoorPart8
import Derived.Laws.AppendOwn
import Derived.Laws.AppendOwnNone
import Derived.Test.YtlahfffgmfjpaaaGreatDoorPart27
import Derived.Test.YtlahfffgmfjpaaaGreatDoorPart10
namespace Go.Proofs.YtlahfffgmfjpaaaGreatDoor
open Go Go.RowKit Go.Shelf Go.Maps

attribute [local go_sem] Oper.semAt_some ext_const ixI0 ixI1 ixI2

set_option maxRecDepth 100000 in
theorem some12_calls (w : World) : Calls Tryz.prog 60 #[] w fun e W' => e = .returned (A3 3 2 1) ∧ Below w.heap.size w W' := by
  have hB : Below w.heap.size w (w.alloc (.cells #[I 3, I 2, I 1] 23)) := (Below.refl _ w).alloc (Nat.le_refl _) _
  go_enter Tryz.func60, Tryz.ntmps60
  go_wp2
  exact bodyPost_ret (v := A3 3 2 1) (by simp [results, Tryz.f60, go_sem]) rfl ⟨rfl, hB⟩
set_option maxRecDepth 100000 in
theorem shaped12_calls (a b c : Int) (t : Bool) (w : World) : Calls Tryz.prog 34 #[I a, I b, I c, .bool t] w fun e W' => e = .returned (V7 a b c false false false t) ∧ Below w.heap.size w W' := by
  have hB : Below w.heap.size w (w.alloc (.cells (cells7 a b c false false false t) 26)) := (Below.refl _ w).alloc (Nat.le_refl _) _
  go_enter Tryz.func34, Tryz.ntmps34
  go_wp2
  exact bodyPost_ret (v := V7 a b c false false false t) (by simp [results, Tryz.f34, go_sem]) rfl ⟨rfl, hB⟩

theorem may321 : mayD 3 2 1 := ⟨⟨by decide, by decide⟩, ⟨by decide, by decide⟩, by decide, by decide⟩
set_option maxRecDepth 100000 in
set_option maxHeartbeats 1000000 in
theorem many12_calls {x y z : Int} {t : Bool} {n : Int} (w : World) (hO : OrdOk w) (hm : mayD x y z) (hn : (placesL 3 2 1 (x, y, z, false, false, false, t)).length = n) :
    Calls Tryz.prog 33 #[V7 x y z false false false t, I n] w fun e W' => e = .returned (.bool true) ∧ Below w.heap.size w W' := by
  have mixed : Tryz.prog.follows .mixedOrders = true := by kernel_rfl
  have HM := fun (w1 : World) (h1 : OrdOk w1) => smany_yes (u := (x, y, z, false, false, false, t)) w1 h1 may321 (mayT_D.2 hm)
  rw [hn] at HM
  have hB : Below w.heap.size w (w.alloc (.cells (cells7 x y z false false false t) 26)) := (Below.refl _ w).alloc (Nat.le_refl _) _
  have HOX : ∀ X : Ext (w.alloc (.cells (cells7 x y z false false false t) 26)), OrdOk X.wd := fun X => (hO.later hB).later X.le
  have kk1 := Blk.new w 26 (cells7 x y z false false false t)
  have x0 := Ext.cell kk1 0
  have x1 := Ext.cell kk1 1
  have x2 := Ext.cell kk1 2
  have x3 := Ext.cell kk1 3
  have x4 := Ext.cell kk1 4
  have x5 := Ext.cell kk1 5
  have x6 := Ext.cell kk1 6
  simp [cells7] at x0 x1 x2 x3 x4 x5 x6
  have HM : Hid (∀ (w1 : World), OrdOk w1 → Calls Tryz.prog 10 #[A3 3 2 1, V7 x y z false false false t] w1 fun e W' => e = .returned (.tuple #[I n, I 0]) ∧ Below w1.heap.size w1 W') := HM
  clear hn hm kk1 hO
  go_enter Tryz.func33, Tryz.ntmps33
  go_wp2_with fail
  refine wp_region_look mixed (by kernel_rfl) ?_
  repeat (go_big_quiet_step (first | (go_at_call 60; exact calls_ext (some12_calls _)) | (go_at_call 10; exact calls_ext (HM.out _ (HOX _)))))
  refine wpQuiet_nil ?_
  intro X
  go_wp2
  go_ret
  exact ⟨rfl, then_below hB X.le⟩

set_option maxRecDepth 100000 in
theorem len111 : ((placesL 3 2 1 (1, 1, 1, false, false, false, false)).length : Int) = 6 := by kernel_rfl
set_option maxRecDepth 100000 in
theorem len311 : ((placesL 3 2 1 (3, 1, 1, false, false, false, false)).length : Int) = 2 := by kernel_rfl
set_option maxRecDepth 100000 in
theorem len211 : ((placesL 3 2 1 (2, 1, 1, false, false, false, false)).length : Int) = 6 := by kernel_rfl
set_option maxRecDepth 100000 in
theorem len211t : ((placesL 3 2 1 (2, 1, 1, false, false, false, true)).length : Int) = 9 := by kernel_rfl
set_option maxRecDepth 100000 in
theorem len411 : ((placesL 3 2 1 (4, 1, 1, false, false, false, false)).length : Int) = 0 := by kernel_rfl
theorem mayx (a : Int) (h : 1 ≤ a ∧ a ≤ 16) : mayD a 1 1 := ⟨h, ⟨by decide, by decide⟩, by decide, by decide⟩

set_option maxRecDepth 100000 in
set_option maxHeartbeats 2000000 in
theorem alive12_calls (w : World) (hO : OrdOk w) : Calls Tryz.prog 13 #[] w fun e W' => e = .returned (.bool true) ∧ Below w.heap.size w W' := by
  have HO : Hid (OrdOk w) := hO
  have HS : Hid (∀ (a : Int) (t : Bool) (w1 : World), Calls Tryz.prog 34 #[I a, I 1, I 1, .bool t] w1 fun e W' => e = .returned (V7 a 1 1 false false false t) ∧ Below w1.heap.size w1 W') := fun a t w1 => shaped12_calls a 1 1 t w1
  have M1 : Hid (∀ w1, OrdOk w1 → Calls Tryz.prog 33 #[V7 1 1 1 false false false false, I 6] w1 fun e W' => e = .returned (.bool true) ∧ Below w1.heap.size w1 W') := fun w1 h => many12_calls w1 h (mayx 1 (by decide)) len111
  have M2 : Hid (∀ w1, OrdOk w1 → Calls Tryz.prog 33 #[V7 3 1 1 false false false false, I 2] w1 fun e W' => e = .returned (.bool true) ∧ Below w1.heap.size w1 W') := fun w1 h => many12_calls w1 h (mayx 3 (by decide)) len311
  have M3 : Hid (∀ w1, OrdOk w1 → Calls Tryz.prog 33 #[V7 2 1 1 false false false false, I 6] w1 fun e W' => e = .returned (.bool true) ∧ Below w1.heap.size w1 W') := fun w1 h => many12_calls w1 h (mayx 2 (by decide)) len211
  have M4 : Hid (∀ w1, OrdOk w1 → Calls Tryz.prog 33 #[V7 2 1 1 false false false true, I 9] w1 fun e W' => e = .returned (.bool true) ∧ Below w1.heap.size w1 W') := fun w1 h => many12_calls w1 h (mayx 2 (by decide)) len211t
  clear hO
  go_enter Tryz.func13, Tryz.ntmps13
  go_wp2_with fail
  refine (HS.out 1 false _).mono ?_
  rintro e w1 ⟨rfl, hB⟩
  have hT := hB
  clear hB
  go_wp2_with fail
  refine (M1.out _ (HO.out.later hT)).mono ?_
  rintro e w2 ⟨rfl, hB⟩
  replace hT := then_below hT hB
  clear hB
  go_wp2_with fail
  refine (HS.out 3 false _).mono ?_
  rintro e w3 ⟨rfl, hB⟩
  replace hT := then_below hT hB
  clear hB
  go_wp2_with fail
  refine (M2.out _ (HO.out.later hT)).mono ?_
  rintro e w4 ⟨rfl, hB⟩
  replace hT := then_below hT hB
  clear hB
  go_wp2_with fail
  refine (HS.out 2 false _).mono ?_
  rintro e w5 ⟨rfl, hB⟩
  replace hT := then_below hT hB
  clear hB
  go_wp2_with fail
  refine (M3.out _ (HO.out.later hT)).mono ?_
  rintro e w6 ⟨rfl, hB⟩
  replace hT := then_below hT hB
  clear hB
  go_wp2_with fail
  refine (HS.out 2 true _).mono ?_
  rintro e w7 ⟨rfl, hB⟩
  replace hT := then_below hT hB
  clear hB
  go_wp2_with fail
  refine (M4.out _ (HO.out.later hT)).mono ?_
  rintro e w8 ⟨rfl, hB⟩
  replace hT := then_below hT hB
  clear hB
  go_wp2
  go_ret
  exact ⟨rfl, hT⟩

end Go.Proofs.YtlahfffgmfjpaaaGreatDoor

/-
  What All answers, whatever it is handed; whether a machine is small.
-/
namespace Go.Proofs.YtlahfffgmfjpaaaGreatDoor
open Go Go.RowKit Go.Shelf Go.Maps

attribute [local go_sem] Oper.semAt_some ext_const ixI0 ixI1 ixI2

/-- What All answers. -/
def alE (d0 d1 d2 : Int) (u : Wt) (mw lw : List Nat) : Int := if okDB d0 d1 d2 && okDB u.1 u.2.1 u.2.2.1 then (if mayW (d0 * d1 * d2).toNat mw lw then 0 else 8) else 8
def alL (d0 d1 d2 : Int) (u : Wt) (mw lw : List Nat) : List Pl := if alE d0 d1 d2 u mw lw = 0 then clearT d0 d1 d2 (turnsT u) mw lw else []
theorem mayT_ok {u : Wt} : mayT u ↔ okDB u.1 u.2.1 u.2.2.1 = true := by
  obtain ⟨x, y, z, p, q, r, t⟩ := u
  rw [okDB_iff]
  exact mayT_D
theorem alE_cases (d0 d1 d2 : Int) (u : Wt) (mw lw : List Nat) : (mayD d0 d1 d2 ∧ mayT u ∧ mayW (d0 * d1 * d2).toNat mw lw = true ∧ alE d0 d1 d2 u mw lw = 0) ∨ alE d0 d1 d2 u mw lw = 8 := by
  unfold alE
  cases h1 : okDB d0 d1 d2
  · exact .inr rfl
  · cases h2 : okDB u.1 u.2.1 u.2.2.1
    · exact .inr rfl
    · cases h3 : mayW (d0 * d1 * d2).toNat mw lw
      · exact .inr rfl
      · exact .inl ⟨(okDB_iff _ _ _).1 h1, mayT_ok.2 h2, rfl, rfl⟩
theorem sall_calls {d0 d1 d2 : Int} {u : Wt} {vm vl : Value} {mw lw : List Nat} (w : World) (hO : OrdOk w) (hM : Wds w vm mw) (hL : Wds w vl lw) :
    Calls Tryz.prog 6 #[A3 d0 d1 d2, W7 u, vm, vl] w fun e W' => ∃ v, e = .returned (.tuple #[v, I (alE d0 d1 d2 u mw lw)]) ∧ Lp W' w.heap.size v (alL d0 d1 d2 u mw lw) ∧ Below w.heap.size w W' := by
  by_cases h : mayD d0 d1 d2 ∧ mayT u
  · have h1 := (okDB_iff _ _ _).2 h.1
    have h2 := mayT_ok.1 h.2
    cases h3 : mayW (d0 * d1 * d2).toNat mw lw
    · have e : alE d0 d1 d2 u mw lw = 8 := by simp [alE, h1, h2, h3]
      refine (sall_bad w h.1 h.2 hM hL h3).mono ?_
      rintro x W' ⟨rfl, hB⟩
      exact ⟨_, by rw [e], by rw [alL, if_neg (by rw [e]; decide)]; exact Lp.nil _ _, hB⟩
    · have e : alE d0 d1 d2 u mw lw = 0 := by simp [alE, h1, h2, h3]
      refine (sall_yes w hO h.1 h.2 hM hL h3).mono ?_
      rintro x W' ⟨v, rfl, hv, hB⟩
      exact ⟨v, by rw [e], by rw [alL, if_pos e]; exact hv, hB⟩
  · have e : alE d0 d1 d2 u mw lw = 8 := by
      unfold alE
      rw [if_neg]
      intro hh
      rw [Bool.and_eq_true] at hh
      exact h ⟨(okDB_iff _ _ _).1 hh.1, mayT_ok.2 hh.2⟩
    refine (sall_no w h).mono ?_
    rintro x W' ⟨rfl, hB⟩
    exact ⟨_, by rw [e], by rw [alL, if_neg (by rw [e]; decide)]; exact Lp.nil _ _, hB⟩
theorem al_len {d0 d1 d2 : Int} {u : Wt} {mw lw : List Nat} : (alL d0 d1 d2 u mw lw).length ≤ 24576 := by
  unfold alL
  split
  · rename_i h
    rcases alE_cases d0 d1 d2 u mw lw with ⟨h1, h2, _⟩ | h8
    · have a := clear_le (d0 := d0) (d1 := d1) (d2 := d2) (turnsT u) mw lw
      have b := places_len h1 h2
      rw [← every_len h1 (turns_all h2)] at b
      have c := places_bd h1 h2
      omega
    · rw [h8] at h; exact absurd h (by decide)
  · simp

/-- Whether a machine has at most 64 midplanes, if it may be. -/
def smB (d0 d1 d2 : Int) : Bool := if okDB d0 d1 d2 then decide (d0 * d1 * d2 ≤ 64) else true
theorem smB_no {d0 d1 d2 : Int} (h : ¬ mayD d0 d1 d2) : smB d0 d1 d2 = true := by
  unfold smB
  rw [if_neg (fun e => h ((okDB_iff _ _ _).1 e))]
theorem smB_yes {d0 d1 d2 : Int} (h : mayD d0 d1 d2) : smB d0 d1 d2 = decide (d0 * d1 * d2 ≤ 64) := by
  unfold smB
  rw [if_pos ((okDB_iff _ _ _).2 h)]

set_option maxRecDepth 100000 in
set_option maxHeartbeats 4000000 in
theorem small12_calls (d0 d1 d2 : Int) (w : World) : Calls Tryz.prog 5 #[A3 d0 d1 d2] w fun e W' => e = .returned (.bool (smB d0 d1 d2)) ∧ Below w.heap.size w W' := by
  have hB : Below w.heap.size w (w.alloc (.cells #[I d0, I d1, I d2] 23)) := (Below.refl _ w).alloc (Nat.le_refl _) _
  by_cases h0 : d0 < 1
  · have e := smB_no (d0 := d0) (d1 := d1) (d2 := d2) (fun h => by have := h.1.1; omega)
    go_enter Tryz.func5, Tryz.ntmps5
    go_wp2
    refine wp_loop_rounds 1 ?_
    rw [rounds_succ]
    go_wp2
    go_ret
    exact ⟨by rw [e]; rfl, hB⟩
  · have g0 : decide (d0 < 1) = false := by simpa using h0
    by_cases h0' : 16 < d0
    · have e := smB_no (d0 := d0) (d1 := d1) (d2 := d2) (fun h => by have := h.1.2; omega)
      go_enter Tryz.func5, Tryz.ntmps5
      go_wp2
      refine wp_loop_rounds 1 ?_
      rw [rounds_succ]
      go_wp2
      go_ret
      exact ⟨by rw [e]; rfl, hB⟩
    · have g0' : decide (16 < d0) = false := by simpa using h0'
      by_cases h1 : d1 < 1
      · have e := smB_no (d0 := d0) (d1 := d1) (d2 := d2) (fun h => by have := h.2.1.1; omega)
        go_enter Tryz.func5, Tryz.ntmps5
        go_wp2
        refine wp_loop_rounds 2 ?_
        rw [rounds_succ]
        go_wp2
        rw [rounds_succ]
        go_wp2
        go_ret
        exact ⟨by rw [e]; rfl, hB⟩
      · have g1 : decide (d1 < 1) = false := by simpa using h1
        by_cases h1' : 16 < d1
        · have e := smB_no (d0 := d0) (d1 := d1) (d2 := d2) (fun h => by have := h.2.1.2; omega)
          go_enter Tryz.func5, Tryz.ntmps5
          go_wp2
          refine wp_loop_rounds 2 ?_
          rw [rounds_succ]
          go_wp2
          rw [rounds_succ]
          go_wp2
          go_ret
          exact ⟨by rw [e]; rfl, hB⟩
        · have g1' : decide (16 < d1) = false := by simpa using h1'
          by_cases h2 : d2 < 1
          · have e := smB_no (d0 := d0) (d1 := d1) (d2 := d2) (fun h => by have := h.2.2.1; omega)
            go_enter Tryz.func5, Tryz.ntmps5
            go_wp2
            refine wp_loop_rounds 3 ?_
            rw [rounds_succ]
            go_wp2
            rw [rounds_succ]
            go_wp2
            rw [rounds_succ]
            go_wp2
            go_ret
            exact ⟨by rw [e]; rfl, hB⟩
          · have g2 : decide (d2 < 1) = false := by simpa using h2
            by_cases h2' : 16 < d2
            · have e := smB_no (d0 := d0) (d1 := d1) (d2 := d2) (fun h => by have := h.2.2.2; omega)
              go_enter Tryz.func5, Tryz.ntmps5
              go_wp2
              refine wp_loop_rounds 3 ?_
              rw [rounds_succ]
              go_wp2
              rw [rounds_succ]
              go_wp2
              rw [rounds_succ]
              go_wp2
              go_ret
              exact ⟨by rw [e]; rfl, hB⟩
            · have g2' : decide (16 < d2) = false := by simpa using h2'
              have hm : mayD d0 d1 d2 := ⟨⟨by omega, by omega⟩, ⟨by omega, by omega⟩, by omega, by omega⟩
              have e := smB_yes hm
              have HE : Hid (smB d0 d1 d2 = decide (d0 * d1 * d2 ≤ 64)) := e
              have b1 : 1 ≤ d0 * d1 ∧ d0 * d1 ≤ 256 := by
                have q1 := Int.mul_le_mul (show d0 ≤ 16 by omega) (show d1 ≤ 16 by omega) (by omega) (by omega)
                have q2 := Int.mul_le_mul (show 1 ≤ d0 by omega) (show 1 ≤ d1 by omega) (by omega) (by omega)
                omega
              have b2 := N_bd hm
              clear e hm
              go_enter Tryz.func5, Tryz.ntmps5
              go_wp2
              refine wp_loop_rounds 4 ?_
              rw [rounds_succ]
              go_wp2
              rw [rounds_succ]
              go_wp2
              rw [rounds_succ]
              go_wp2
              rw [rounds_succ]
              go_wp2
              go_ret
              exact ⟨by rw [HE.out]; rfl, hB⟩

end Go.Proofs.YtlahfffgmfjpaaaGreatDoor

/-
  What SpotsHas asks of the list of places, without a program.
-/
namespace Go.Proofs.YtlahfffgmfjpaaaGreatDoor
open Go Go.RowKit Go.Shelf Go.Maps

def cntP (L : List Pl) (x : Pl) (k : Nat) : Nat := (L.take k).countP (fun y => eqP y x)
theorem cnt_yes {L : List Pl} {x : Pl} {k : Nat} (hk : k < L.length) (h : eqP (L.getD k zP) x = true) : cntP L x (k + 1) = cntP L x k + 1 := by
  unfold cntP
  rw [List.take_succ_eq_append_getElem hk, List.countP_append]
  simp [hk] at h
  simp [h]
theorem cnt_no {L : List Pl} {x : Pl} {k : Nat} (hk : k < L.length) (h : eqP (L.getD k zP) x = false) : cntP L x (k + 1) = cntP L x k := by
  unfold cntP
  rw [List.take_succ_eq_append_getElem hk, List.countP_append]
  simp [hk] at h
  simp [h]
theorem cntP_le (L : List Pl) (x : Pl) (k : Nat) : cntP L x k ≤ k := by
  unfold cntP
  exact Nat.le_trans List.countP_le_length (by simp; omega)

theorem may_err {d0 d1 d2 : Int} (h : mayD d0 d1 d2) (p : Pl) : mayL d0 d1 d2 p = true ↔ errP d0 d1 d2 p.1 p.2.1 p.2.2.1 p.2.2.2 = 0 := by
  constructor
  · exact fun hp => errP_ok h (mayL_iff.1 hp)
  · intro e
    rcases errP_cases d0 d1 d2 p.1 p.2.1 p.2.2.1 p.2.2.2 with ⟨_, hp, _⟩ | ⟨he, _⟩
    · exact mayL_iff.2 hp
    · rw [e] at he
      exact absurd he (by decide)
theorem is_err {d0 d1 d2 : Int} {u : Wt} (h : mayD d0 d1 d2) (hu : mayT u) (p : Pl) : isE d0 d1 d2 u p.1 p.2.1 p.2.2.1 p.2.2.2 = errP d0 d1 d2 p.1 p.2.1 p.2.2.1 p.2.2.2 := by
  unfold isE
  rw [(okDB_iff _ _ _).2 h, mayT_ok.1 hu]
  rfl

/-- Each that is listed is one, and free. -/
theorem has_each {d0 d1 d2 : Int} {u : Wt} {mw lw : List Nat} (h : mayD d0 d1 d2) (hu : mayT u) (hw : mayW (d0 * d1 * d2).toNat mw lw = true) {p : Pl} (hp : p ∈ clearT d0 d1 d2 (turnsT u) mw lw) :
    (isE d0 d1 d2 u p.1 p.2.1 p.2.2.1 p.2.2.2 = 0 ∧ isB d0 d1 d2 u p.1 p.2.1 p.2.2.1 p.2.2.2 = true) ∧ hoE d0 d1 d2 p.1 p.2.1 p.2.2.1 p.2.2.2 mw lw = 0 ∧ hoB d0 d1 d2 p.1 p.2.1 p.2.2.1 p.2.2.2 mw lw = true := by
  obtain ⟨⟨h1, h2⟩, h3⟩ := (clear_mem h (turns_all hu)).1 hp
  have e : isE d0 d1 d2 u p.1 p.2.1 p.2.2.1 p.2.2.2 = 0 := (is_err h hu p).trans ((may_err h p).1 h1)
  obtain ⟨e1, e2⟩ := hold_may h h1 hw
  refine ⟨⟨e, ?_⟩, e1, e2.trans h3⟩
  unfold isB
  rw [e, decide_eq_true rfl, Bool.true_and]
  exact h2
/-- How often a place is listed. -/
theorem has_count {d0 d1 d2 : Int} {u : Wt} {mw lw : List Nat} (h : mayD d0 d1 d2) (hu : mayT u) (hw : mayW (d0 * d1 * d2).toNat mw lw = true) (p : Pl) :
    cntP (clearT d0 d1 d2 (turnsT u) mw lw) p (clearT d0 d1 d2 (turnsT u) mw lw).length = if isE d0 d1 d2 u p.1 p.2.1 p.2.2.1 p.2.2.2 = 0 ∧ hoE d0 d1 d2 p.1 p.2.1 p.2.2.1 p.2.2.2 mw lw = 0 then (if isB d0 d1 d2 u p.1 p.2.1 p.2.2.1 p.2.2.2 && hoB d0 d1 d2 p.1 p.2.1 p.2.2.1 p.2.2.2 mw lw then 1 else 0) else 0 := by
  classical
  have hc := clear_count h (turns_all hu) mw lw p
  have e : cntP (clearT d0 d1 d2 (turnsT u) mw lw) p (clearT d0 d1 d2 (turnsT u) mw lw).length = (clearT d0 d1 d2 (turnsT u) mw lw).countP (fun y => decide (y = p)) := by
    unfold cntP
    rw [List.take_length]
    refine List.countP_congr fun y _ => ?_
    rw [eqP_iff, decide_eq_true_eq]
  rw [e, hc]
  cases hm : mayL d0 d1 d2 p
  · have : ¬ errP d0 d1 d2 p.1 p.2.1 p.2.2.1 p.2.2.2 = 0 := fun e => by rw [(may_err h p).2 e] at hm; cases hm
    rw [is_err h hu p, Bool.false_and, Bool.false_and, if_neg (by decide), if_neg (fun hh => this hh.1)]
  · have he := (may_err h p).1 hm
    have hi := (is_err h hu p).trans he
    obtain ⟨e1, e2⟩ := hold_may h hm hw
    have hb : isB d0 d1 d2 u p.1 p.2.1 p.2.2.1 p.2.2.2 = isT (turnsT u) p := by
      unfold isB
      rw [hi, decide_eq_true rfl, Bool.true_and]
    have hq : isE d0 d1 d2 u p.1 p.2.1 p.2.2.1 p.2.2.2 = 0 ∧ hoE d0 d1 d2 p.1 p.2.1 p.2.2.1 p.2.2.2 mw lw = 0 := ⟨hi, e1⟩
    rw [hb, e2, Bool.true_and]
    exact (if_pos hq).symm

end Go.Proofs.YtlahfffgmfjpaaaGreatDoor

/-
  A set among the arguments: as it came in, and a copy of it.
-/
namespace Go.Proofs.YtlahfffgmfjpaaaGreatDoor
open Go Go.RowKit Go.Shelf

/-- A row of words that came in. -/
def ArgW (W : World) (v : Value) (ws : List Nat) : Prop := Wds W v ws ∧ (v = .slice none 0 0 ∨ ∃ ad cap, v = .slice (some ad) ws.length cap)
def ArgI (W : World) (v : Value) (xs : List Int) : Prop := Its W v xs ∧ (v = .slice none 0 0 ∨ ∃ ad cap, v = .slice (some ad) xs.length cap)

theorem owns_wds {W : World} {base : Nat} {v : Value} {ws : List Nat} (hw : ∀ x ∈ ws, x < 18446744073709551616) (h : W.ownsRow base 129 1 v ws.length (ws.map U)) : Wds W v ws := by
  obtain ⟨h1, h2⟩ := h
  refine ⟨hw, ?_⟩
  rcases h2 with ⟨rfl, hn⟩ | ⟨g, cap, cur, rfl, hg, hh, hc, hc2, hs, ht⟩
  · have : ws = [] := List.length_eq_zero_iff.1 hn
    subst this
    exact Sl.nil W
  · refine ⟨_, cap, by simp, fun k hk => ⟨g, 0, rfl, (Array.getElem?_eq_some_iff.1 hh).1, ?_⟩⟩
    have hb : Blk W g 129 cur := hh
    rw [Nat.zero_add, hb.cell k]
    have := congrArg (fun l => l[k]?) ht
    simp only [Nat.mul_one] at this
    rw [List.length_map] at hk
    rw [List.getElem?_take_of_lt hk, Array.getElem?_toList] at this
    exact this

/-- 'own = append(own, s...)', own nil. -/
theorem wpList_copy {ops : Array Oper} {rest : List Oper} {o : Oper} {a : Act} {Q : Exit → Act → World → Prop} {W : World} {v : Value} {ws : List Nat} (hgd : o.guard = none) (s x : Operand)
    (ho : o.op = .call { callee := .builtin .append, args := #[s, x], argTypes := #[28, 28] }) (hs : a.eval s = .slice none 0 0) (hx : a.eval x = v)
    (hA : ArgW W v ws) (hl : ws.length ≤ 1000)
    (h : ∀ v' w', Wds w' v' ws → Below W.heap.size W w' → wpList Tryz.prog ops Q rest (a.put o.dst v') w') : wpList Tryz.prog ops Q (o :: rest) a W := by
  obtain ⟨i0, hi, hz0, hz1, hz2⟩ := info_parts info_u64
  obtain ⟨hW, rfl | ⟨ad, cap, rfl⟩⟩ := hA
  · have e : ws = [] := by
      obtain ⟨ao, c, e, _⟩ := hW.view
      simp only [Value.slice.injEq] at e
      exact List.length_eq_zero_iff.1 e.2.1.symm
    subst e
    exact wpList_append_own_none hgd s x 28 ho W.heap.size 129 i0 1 Tryz.underlying28 hi (.slice none 0 0) 0 [] hs (World.ownsRow_nil _ _ _ _) hx (h _ _ (Wds.nil W) (Below.refl _ _))
  · refine wpList_append_own (w := W) hgd s x 28 ho W.heap.size 129 i0 (.int .u64 0) 1 8 Tryz.underlying28 hi hz0 hz1 hz2 rfl (by decide) (.slice none 0 0) 0 [] hs (World.ownsRow_nil _ _ _ _) ad ws.length cap (ws.map U) hx (by simp) ?_ ?_ ?_ ?_ ?_ ?_
    · intro j u hj
      obtain ⟨ao, c, e, hv⟩ := hW.view
      simp only [Value.slice.injEq] at e
      obtain ⟨rfl, -, -⟩ := e
      have hjl : j < ws.length := by
        have := (List.getElem?_eq_some_iff.1 hj).1
        simpa using this
      obtain ⟨g, off, e, hg, hc⟩ := hv j hjl
      simp only [Option.some.injEq] at e
      subst e
      have : (⟨g, off, none⟩ : Addr).add j = ⟨g, off + j, none⟩ := by
        unfold Addr.add
        split
        · rename_i h0; subst h0; rfl
        · rfl
      rw [this, hc, ← hj]
      simp [hjl]
    · intro u hu
      obtain ⟨y, _, rfl⟩ := List.mem_map.1 hu
      rfl
    · unfold maxLen; omega
    · omega
    · omega
    · intro v' w1 hown' hgrow _
      refine h v' w1 (owns_wds hW.1 (by simpa using hown')) ?_
      exact (Below.refl _ W).grown hgrow (Nat.le_refl _) (fun k hk => by cases hk)

end Go.Proofs.YtlahfffgmfjpaaaGreatDoor

/-
  tidehallref12.Same; a list of bools of a call's own; what SpotsTurns asks of the lists of places.
-/
namespace Go.Proofs.YtlahfffgmfjpaaaGreatDoor
open Go Go.RowKit Go.Shelf Go.Maps

attribute [local go_sem] Oper.semAt_some ext_const ixI0 ixI1 ixI2
attribute [local go_sem high] eq_place

/-- Two lists are the same. -/
def sameP (xs ys : List Pl) : Bool := decide (xs.length = ys.length) && (List.range xs.length).all fun k => eqP (xs.getD k zP) (ys.getD k zP)
theorem sameP_iff {xs ys : List Pl} : sameP xs ys = true ↔ xs = ys := by
  unfold sameP
  rw [Bool.and_eq_true, decide_eq_true_eq, List.all_eq_true]
  constructor
  · rintro ⟨hl, h⟩
    refine List.ext_getElem hl fun k h1 h2 => ?_
    have := eqP_iff.1 (h k (List.mem_range.2 h1))
    simpa [h1, h2] using this
  · rintro rfl
    exact ⟨rfl, fun k _ => eqP_self _⟩
theorem sameP_self (xs : List Pl) : sameP xs xs = true := sameP_iff.2 rfl

set_option maxRecDepth 100000 in
set_option maxHeartbeats 4000000 in
theorem sameP_calls {b1 b2 : Nat} {u v : Value} {xs ys : List Pl} (w : World) (hX : Lp w b1 u xs) (hY : Lp w b2 v ys) (hl : xs.length ≤ 1000000) :
    Calls Tryz.prog 12 #[u, v] w fun e W' => e = .returned (.bool (sameP xs ys)) ∧ Below w.heap.size w W' := by
  have mixed : Tryz.prog.follows .mixedOrders = true := by kernel_rfl
  obtain ⟨ao, cap, rfl, hX⟩ := hX.form
  obtain ⟨bo, cap2, rfl, hY⟩ := hY.form
  by_cases hne : xs.length = ys.length
  · have HR1 : Hid ((∀ k, k < xs.length → eqP (xs.getD k zP) (ys.getD k zP) = true) → sameP xs ys = true) := fun h => by
      unfold sameP
      rw [decide_eq_true hne, Bool.true_and, List.all_eq_true]
      exact fun k hk => h k (List.mem_range.1 hk)
    have HR0 : Hid (∀ k, k < xs.length → eqP (xs.getD k zP) (ys.getD k zP) = false → sameP xs ys = false) := fun k hk h => by
      unfold sameP
      rw [decide_eq_true hne, Bool.true_and, List.all_eq_false]
      exact ⟨k, List.mem_range.2 hk, by rw [h]; decide⟩
    have HY2 : Hid (Lp w b2 (.slice bo ys.length cap2) ys) := hY
    have HX2 : Hid (Lp w b1 (.slice ao xs.length cap) xs) := hX
    have HNe : Hid (ys.length = xs.length) := hne.symm
    clear hX hY
    rw [← hne]
    clear hne
    generalize sameP xs ys = ans at *
    go_enter Tryz.func12, Tryz.ntmps12
    go_wp2
    go_loopw [5] (fun i wr => ∃ (k : Nat), k ≤ xs.length ∧ i = .int .i64 k ∧ Hid (∀ j, j < k → eqP (xs.getD j zP) (ys.getD j zP) = true) ∧ Hid (Below w.heap.size w wr)) (fun i _ => xs.length - (RowKit.intOf i).toNat)
    case atStart => exact ⟨0, by omega, rfl, fun j h => absurd h (Nat.not_lt_zero j), Below.refl _ _⟩
    case round =>
      obtain ⟨k, hk, rfl, HK, HB⟩ := hrel
      by_cases hlt : (k : Int) < (xs.length : Int)
      · have hk2 : k < xs.length := by omega
        obtain ⟨g1, bx, p1, q1, r1, rfl, e1, hat1⟩ := (HX2.out.later HB.out).at hk2
        obtain ⟨g2, cx, p2, q2, r2, rfl, e2, hat2⟩ := (HY2.out.later HB.out).at (k := k) (by rw [HNe.out]; exact hk2)
        obtain ⟨s, hs⟩ : ∃ s, eqP (xs.getD k zP) (ys.getD k zP) = s := ⟨_, rfl⟩
        have HS0 : Hid (s = false → ans = false) := fun h => HR0.out k hk2 (hs.trans h)
        have HS1 : Hid (s = true → ∀ j, j < k + 1 → eqP (xs.getD j zP) (ys.getD j zP) = true) := fun h j hj => by
          by_cases e : j = k
          · rw [e]; exact hs.trans h
          · exact HK.out j (by omega)
        rw [e1, e2] at hs
        clear e1 e2
        obtain ⟨x0, x1, x2, x3, x4, x5, x6, x7, x8⟩ := hat1.ext
        obtain ⟨y0, y1, y2, y3, y4, y5, y6, y7, y8⟩ := hat2.ext
        clear hat1 hat2 HK
        go_wp2_with fail
        refine wp_region_look mixed (by kernel_rfl) ?_
        repeat (go_big_quiet_step (fail))
        refine wpQuiet_nil ?_
        intro X
        have HB2 : Hid (Below w.heap.size w X.wd) := HB.out.trans (X.le.mono HB.out.size)
        clear x0 x1 x2 x3 x4 x5 x6 x7 x8 y0 y1 y2 y3 y4 y5 y6 y7 y8 HB
        generalize X.wd = w3 at *
        clear X
        try rw [hs]
        cases s
        · have HA : Hid (ans = false) := HS0.out rfl
          clear HS0 HS1 hs
          go_wp2
          go_ret
          exact ⟨by rw [HA.out]; rfl, HB2.out⟩
        · have HS2 := HS1.out rfl
          have HS2 : Hid (∀ j, j < k + 1 → eqP (xs.getD j zP) (ys.getD j zP) = true) := HS2
          clear HS0 HS1 hs
          go_wp2
          exact ⟨⟨k + 1, by omega, by go_num, HS2.out, HB2.out⟩, by simp [RowKit.intOf]; omega⟩
      · obtain rfl : k = xs.length := by omega
        have HA : Hid (ans = true) := HR1.out HK.out
        clear HK
        go_wp2
        go_ret
        exact ⟨by rw [HA.out]; rfl, HB.out⟩
  · have hA : sameP xs ys = false := by
      unfold sameP
      rw [decide_eq_false hne, Bool.false_and]
    have hn1 : decide ((xs.length : Int) = (ys.length : Int)) = false := by
      rw [decide_eq_false_iff_not]; omega
    have hn2 : ((xs.length : Int) != (ys.length : Int)) = true := by
      simp only [bne_iff_ne, ne_eq]; omega
    rw [hA]
    clear hX hY hA hne
    go_enter Tryz.func12, Tryz.ntmps12
    go_wp2
    go_ret
    exact ⟨rfl, Below.refl _ _⟩


theorem info_b : (Tryz.prog.info? 4).map (fun i => (i.zero, i.size, i.bytes)) = some (some (.bool false), 1, 1) := by kernel_rfl
theorem made_false (n : Nat) : madeCells #[.bool false] n = ((List.replicate n false).map Value.bool).toArray := by
  apply Array.ext
  · simp [madeCells]
  · intro i h1 h2
    simp only [madeCells, Array.getElem_map, Array.getElem_range]
    simp [Nat.mod_one]

/-- 'make([]bool, n)'. -/
theorem wpList_mkF {ops : Array Oper} {rest : List Oper} {o : Oper} {a : Act} {Q : Exit → Act → World → Prop} {W : World} (hgd : o.guard = none) (l c : Operand) (ho : o.op = Op.makeSlice 54 l c) (n : Nat)
    (hl : a.eval l = .int .i64 n) (hc : a.eval c = .int .i64 n) (h1 : n ≤ 100000)
    (h : ∀ w', Blk w' W.heap.size 4 ((List.replicate n false).map Value.bool).toArray → Below W.heap.size W w' → wpList Tryz.prog ops Q rest (a.put o.dst (.slice (some ⟨W.heap.size, 0, none⟩) n n)) w') : wpList Tryz.prog ops Q (o :: rest) a W := by
  obtain ⟨i0, hi, hz0, hz1, hz2⟩ := info_parts info_b
  refine wpList_plain hgd fun K hK' => ?_
  have hrun := run_make (P := Tryz.prog) W 54 4 i0 (.bool false) Tryz.underlying54 hi hz0 .i64 .i64 n n (by omega) (by omega) (by rw [hz2]; omega) (by omega)
  rw [hz1, Nat.mul_one] at hrun
  simp only [Int.toNat_natCast] at hrun
  rw [show (Value.bool false).cells = #[.bool false] from rfl, made_false] at hrun
  have hN := h _ (Blk.new W 4 _) ((Below.refl _ W).alloc (Nat.le_refl _) _)
  clear h
  generalize ((List.replicate n false).map Value.bool).toArray = cs at hrun hN
  unfold Oper.wp
  simp [execOp, ho, hl, hc, hrun, Result.andThen]
  exact hK' _ _ hN

theorem blk_putF {W : World} {g : Nat} {fs : List Bool} (h : Blk W g 4 (fs.map Value.bool).toArray) (i : Nat) (x : Bool) : Blk (W.setCell ⟨g, i, none⟩ (.bool x)) g 4 ((fs.set i x).map Value.bool).toArray := by
  have := h.set i (.bool x)
  rw [List.map_set]
  simpa using this
theorem Wl.set {W : World} {base : Nat} {v : Value} {xs : List Wt} (h : Wl W base v xs) {B : Nat} {t : TypeId} {vs : Array Value} (hB : Blk W B t vs) (ht : t ≠ 26) (i : Nat) (u : Value) : Wl (W.setCell ⟨B, i, none⟩ u) base v xs := by
  obtain ⟨h1, h2⟩ := h
  refine ⟨h1, ?_⟩
  rcases h2 with h2 | ⟨g', cap', cur, e, hgb, hh, r⟩
  · exact .inl h2
  · refine .inr ⟨g', cap', cur, e, hgb, (Below.heap_setCell W ⟨B, i, none⟩ u g' (fun e => ?_)).trans hh, r⟩
    have e : g' = B := e
    subst e
    rw [show W.heap[g']? = _ from hB] at hh
    cases hh
    exact ht rfl

/-- What the statement asks, without a program. -/
structure TurnsOk (d0 d1 d2 : Int) (u : Wt) (mw lw : List Nat) : Prop where
  one : ∀ x ∈ turnsT u, alE d0 d1 d2 x mw lw = 0 ∧ alL d0 d1 d2 x mw lw = alL d0 d1 d2 u mw lw ∧ alE d0 d1 d2 (offT x) mw lw = 0
  sub : ∀ x ∈ turnsT u, ∀ p ∈ alL d0 d1 d2 (offT x) mw lw, p ∈ alL d0 d1 d2 u mw lw
  sup : ∀ p ∈ alL d0 d1 d2 u mw lw, ∃ x ∈ turnsT u, p ∈ alL d0 d1 d2 (offT x) mw lw
theorem off_may {x : Wt} : mayT (offT x) ↔ mayT x := by obtain ⟨a, b, c, p, q, r, t⟩ := x; exact Iff.rfl
theorem alE_ok {d0 d1 d2 : Int} {u : Wt} {mw lw : List Nat} (h1 : mayD d0 d1 d2) (h2 : mayT u) (h3 : mayW (d0 * d1 * d2).toNat mw lw = true) : alE d0 d1 d2 u mw lw = 0 := by
  unfold alE
  rw [(okDB_iff _ _ _).2 h1, mayT_ok.1 h2, h3]
  rfl
theorem off_list (x : Wt) : turnsT (offT x) = [offT x] := by obtain ⟨a, b, c, p, q, r, t⟩ := x; rfl
theorem kind_off (x : Wt) : kindT (offT x) = kindT x := by obtain ⟨a, b, c, p, q, r, t⟩ := x; rfl
theorem al_off {d0 d1 d2 : Int} {x : Wt} {mw lw : List Nat} (h1 : mayD d0 d1 d2) (h2 : mayT x) (h3 : mayW (d0 * d1 * d2).toNat mw lw = true) (p : Pl) : p ∈ alL d0 d1 d2 (offT x) mw lw ↔ p ∈ clearT d0 d1 d2 [x] mw lw := by
  rw [alL, if_pos (alE_ok h1 (off_may.2 h2) h3), off_list, clear_mem h1 (by simpa using off_may.2 h2), clear_mem h1 (by simpa using h2)]
  simp [isT, kind_off]
theorem turns_ok {d0 d1 d2 : Int} {u : Wt} {mw lw : List Nat} (ht : turnT u = true) (h1 : mayD d0 d1 d2) (h2 : mayT u) (h3 : mayW (d0 * d1 * d2).toNat mw lw = true) : TurnsOk d0 d1 d2 u mw lw where
  one := fun x hx => by
    have hm := (turns_may h2 hx).1
    refine ⟨alE_ok h1 hm h3, ?_, alE_ok h1 (off_may.2 hm) h3⟩
    rw [alL, alL, if_pos (alE_ok h1 hm h3), if_pos (alE_ok h1 h2 h3), turns_same h2 ht hx]
  sub := fun x hx p hp => by
    rw [al_off h1 (turns_may h2 hx).1 h3] at hp
    rw [alL, if_pos (alE_ok h1 h2 h3)]
    exact (clear_rot h1 (turns_all h2)).2 ⟨x, hx, hp⟩
  sup := fun p hp => by
    rw [alL, if_pos (alE_ok h1 h2 h3)] at hp
    obtain ⟨x, hx, hp⟩ := (clear_rot h1 (turns_all h2)).1 hp
    exact ⟨x, hx, (al_off h1 (turns_may h2 hx).1 h3 p).2 hp⟩

end Go.Proofs.YtlahfffgmfjpaaaGreatDoor

/-
  As Loud, where an operation itself may make memory too (a slice written out).
-/
namespace Go.Proofs.YtlahfffgmfjpaaaGreatDoor
open Go Go.RowKit Go.Shelf

section
variable {F : Fence} {n : Nat} {P : Program}

/-- What an operation comes to: a value, or a value and new memory, or a call. -/
def Comes2 (P : Program) (o : Oper) (a : Act) (w : World) (R : Value → World → Prop) : Prop :=
  (∃ v w', (execOp a.eval o).run P w = .ok (.value v) w' ∧ Below w.heap.size w w' ∧ R v w') ∨ (∃ f args, (execOp a.eval o).run P w = .ok (.enter f args) w ∧ Calls P f args w fun e w' => ∃ v, e = .returned v ∧ Below w.heap.size w w' ∧ R v w')

variable {l : List Oper} {a0 : Act} {w0 : World} {Q : Exit → Act → World → Prop} {S : Nat → Value → World → Prop}

theorem any_loud2 (hF : Loose F P) (hB : soloB l a0.tmps.size = true)
    (hS : ∀ i v w w', S i v w → Below w.heap.size w w' → S i v w')
    (hop : ∀ (i : Nat) (o : Oper), l[i]? = some o → ∀ (a : Act) (w : World), Below w0.heap.size w0 w → Like l a0 a → (∀ e ∈ o.after, Region.binds .any e = true → S e.on (slot l a e.on) w) → Comes2 P o a w (S i))
    (hend : ∀ (a : Act) (w : World), Below w0.heap.size w0 w → Like l a0 a → (∀ i, i < l.length → S i (slot l a i) w) → Q .normal a w) :
    ∀ (f : Nat) (L : Array Bool) (a : Act) (w : World), L.size = l.length → L.toList.count false ≤ f → Below w0.heap.size w0 w → Like l a0 a → (∀ i, L.getD i false = true → S i (slot l a i) w) → wpAnyIn F n P .any l.toArray Q f L a w := by
  have hbeg : beginB l l.length = true := (Bool.and_eq_true_iff.1 hB).2
  have hnd : noDefer l.toArray = true := (Bool.and_eq_true_iff.1 (Bool.and_eq_true_iff.1 hB).1).2
  have htake : l.take l.length = l := List.take_length
  have fin : ∀ (L : Array Bool) (a : Act) (w : World), L.size = l.length → Region.ready .any l.toArray L = [] → Below w0.heap.size w0 w → Like l a0 a → (∀ i, L.getD i false = true → S i (slot l a i) w) → Q .normal a w := by
    intro L a w hs hr hT hL hA
    have hfull := full_of_none (l := l) (m := l.length) hbeg hs (by rw [htake]; exact hr)
    refine hend a w hT hL fun i hi => hA i ?_
    rw [hfull]
    simp [Array.getD, hi]
  intro f
  induction f with
  | zero =>
    intro L a w hs hc hT hL hA
    have hall : Region.ready .any l.toArray L = [] := by
      apply List.eq_nil_iff_forall_not_mem.2
      intro i hi
      obtain ⟨h1, _⟩ := mem_ready.1 hi
      have h0 : L.toList.count false = 0 := by omega
      rw [List.count_eq_zero] at h0
      refine h0 ?_
      by_cases hlt : i < L.size
      · rw [Array.getD, dif_pos hlt] at h1
        rw [← h1]
        exact Array.getElem_mem_toList hlt
      · rw [Array.getD, dif_neg hlt] at h1; cases h1
    exact ⟨hall, fin L a w hs hall hT hL hA⟩
  | succ f ih =>
    intro L a w hs hc hT hL hA
    refine ⟨fun hr => fin L a w hs hr hT hL hA, fun i hi => ?_⟩
    obtain ⟨h1, o, ho, hall⟩ := mem_ready.1 hi
    have hol : l[i]? = some o := by simpa using ho
    have hil : i < l.length := (List.getElem?_eq_some_iff.1 hol).1
    obtain ⟨hg, hd, hlt, hne⟩ := solo_at hB hol
    have hcome := hop i o hol a w hT hL (fun e he hb => hA e.on (hall e he hb))
    have hnot : L.toList[i]? = some false := by
      have hlt' : i < L.size := by omega
      rw [Array.getD, dif_pos hlt'] at h1
      rw [Array.getElem?_toList, Array.getElem?_eq_getElem hlt']
      exact congrArg some h1
    have hnext : ∀ (v : Value) (w' : World), Below w.heap.size w w' → S i v w' → wpAnyIn F n P .any l.toArray Q f (L.setIfInBounds i true) (a.put o.dst v) w' := by
      intro v w' hB' hv
      rw [hd]
      refine ih _ _ w' (by simpa using hs) ?_ (then_below hT hB') ⟨?_, ?_, ?_⟩ ?_
      · have := count_set L.toList i hnot
        rw [Array.toList_setIfInBounds]
        omega
      · simp [Act.put]; exact hL.size
      · simp [Act.put]; exact hL.defers
      · intro t ht
        rw [put_ne (ht i hil)]
        exact hL.out t ht
      · intro j hj
        by_cases hij : j = i
        · subst hij
          show S j ((a.put (some (dstOf l j)) v).tmps.getD (dstOf l j) undef) w'
          rw [put_at (by rw [hL.size]; exact hlt)]
          exact hv
        · have hjl : L.getD j false = true := by
            rw [Array.getD_eq_getD_getElem?, Array.getElem?_setIfInBounds_ne (Ne.symm hij), ← Array.getD_eq_getD_getElem?] at hj
            exact hj
          have hjlt : j < l.length := by
            rcases Nat.lt_or_ge j L.size with h | h
            · omega
            · rw [Array.getD, dif_neg (by omega)] at hjl; cases hjl
          show S j ((a.put (some (dstOf l i)) v).tmps.getD (dstOf l j) undef) w'
          rw [getD_ne (hne j hjlt hij)]
          exact hS _ _ _ _ (hA j hjl) hB'
    have hfn : ∀ f, o.about P w a.eval = some f → F.fn f := fun f _ => hF.fn f
    simp only [wpOpIn, ho, Region.wanted, hg, if_true]
    refine ⟨hfn, ?_⟩
    rw [Oper.semAt_eq _ _ _ (noDefer_spec hnd ho)]
    rcases hcome with ⟨v, w', e, hB', hv⟩ | ⟨g, args, e, hc'⟩
    · rw [e]; exact hnext v w' hB' hv
    · rw [e]
      refine ⟨fun hx => (hF.depth hx).elim, hF.calls _ _ _ _ _ (hc'.mono ?_)⟩
      rintro x w' ⟨v, rfl, hB', hv⟩
      exact hnext v w' hB' hv

/-- In whatever order: each operation's word holds at the end. -/
theorem wp_region_loud2 {id : Nat} (S : Nat → Value → World → Prop) (hm : P.follows .mixedOrders = true) (hB : soloB l a0.tmps.size = true)
    (hS : ∀ i v w w', S i v w → Below w.heap.size w w' → S i v w')
    (hop : ∀ (i : Nat) (o : Oper), l[i]? = some o → ∀ (a : Act) (w : World), Below w0.heap.size w0 w → Like l a0 a → (∀ e ∈ o.after, Region.binds .any e = true → S e.on (slot l a e.on) w) → Comes2 P o a w (S i))
    (hend : ∀ (v : Nat → Value) (w : World), Below w0.heap.size w0 w → (∀ i, i < l.length → S i (v i) w) → Q .normal ((List.range l.length).foldl (fun b i => b.put (some (dstOf l i)) (v i)) a0) w) :
    (Code.region id l.toArray true).wp P Q a0 w0 := by
  refine (wpIn_wide (n := 0)).1 (wpIn_region_any hm ?_)
  refine any_loud2 (loose_wide P) hB hS hop (fun a w hT hL hA => ?_) _ _ _ _ (by simp) (by simp) ((Below.refl _ w0).drew) ⟨rfl, rfl, fun _ _ => rfl⟩ (fun i hi => ?_)
  · rw [like_puts hL]
    exact hend (slot l a) w hT hA
  · exfalso
    rw [Array.getD_eq_getD_getElem?] at hi
    simp [Array.getElem?_replicate] at hi
    split at hi <;> simp at hi
end
end Go.Proofs.YtlahfffgmfjpaaaGreatDoor

/-
  Small functions of layer 12's statements: the chapter's dimensions, shapes, how many; the chapter's first examples.
-/
import Derived.Test.YtfbegeopiakccaaGreatDoorSpotsAll
import Derived.Test.YtfbegeopiakccaaGreatDoorPart8
import Derived.Laws.AppendOwn
import Derived.Laws.AppendOwnNone
import Derived.Test.YtfbegeopiakccaaGreatDoorPart1
import Derived.Test.YtfbegeopiakccaaGreatDoorRows
import Derived.ProofKit
import Derived.OpenShut
import Derived.ChangeOld
import Derived.Below
import Derived.Laws.IdiomArrays
namespace Go.Proofs.YtfbegeopiakccaaGreatDoor
open Go Go.RowKit Go.Shelf Go.Maps

attribute [local go_sem] Oper.semAt_some ext_const ixI0 ixI1 ixI2

set_option maxRecDepth 100000 in
theorem some12_calls (w : World) : Calls Tryz.prog 9 #[] w fun e W' => e = .returned (A3 3 2 1) ∧ Below w.heap.size w W' := by
  have hB : Below w.heap.size w (w.alloc (.cells #[I 3, I 2, I 1] 27)) := (Below.refl _ w).alloc (Nat.le_refl _) _
  go_enter Tryz.func9, Tryz.ntmps9
  go_wp2
  exact bodyPost_ret (v := A3 3 2 1) (by simp [results, Tryz.f9, go_sem]) rfl ⟨rfl, hB⟩
set_option maxRecDepth 100000 in
theorem shaped12_calls (a b c : Int) (t : Bool) (w : World) : Calls Tryz.prog 10 #[I a, I b, I c, .bool t] w fun e W' => e = .returned (V7 a b c false false false t) ∧ Below w.heap.size w W' := by
  have hB : Below w.heap.size w (w.alloc (.cells (cells7 a b c false false false t) 31)) := (Below.refl _ w).alloc (Nat.le_refl _) _
  go_enter Tryz.func10, Tryz.ntmps10
  go_wp2
  exact bodyPost_ret (v := V7 a b c false false false t) (by simp [results, Tryz.f10, go_sem]) rfl ⟨rfl, hB⟩

theorem may321 : mayD 3 2 1 := ⟨⟨by decide, by decide⟩, ⟨by decide, by decide⟩, by decide, by decide⟩
set_option maxRecDepth 100000 in
set_option maxHeartbeats 1000000 in
theorem many12_calls {x y z : Int} {t : Bool} {n : Int} (w : World) (hO : OrdOk w) (hm : mayD x y z) (hn : (placesL 3 2 1 (x, y, z, false, false, false, t)).length = n) :
    Calls Tryz.prog 12 #[V7 x y z false false false t, I n] w fun e W' => e = .returned (.bool true) ∧ Below w.heap.size w W' := by
  have mixed : Tryz.prog.follows .mixedOrders = true := by kernel_rfl
  have HM := fun (w1 : World) (h1 : OrdOk w1) => smany_yes (u := (x, y, z, false, false, false, t)) w1 h1 may321 (mayT_D.2 hm)
  rw [hn] at HM
  have hB : Below w.heap.size w (w.alloc (.cells (cells7 x y z false false false t) 31)) := (Below.refl _ w).alloc (Nat.le_refl _) _
  have HOX : ∀ X : Ext (w.alloc (.cells (cells7 x y z false false false t) 31)), OrdOk X.wd := fun X => (hO.later hB).later X.le
  have kk1 := Blk.new w 31 (cells7 x y z false false false t)
  have x0 := Ext.cell kk1 0
  have x1 := Ext.cell kk1 1
  have x2 := Ext.cell kk1 2
  have x3 := Ext.cell kk1 3
  have x4 := Ext.cell kk1 4
  have x5 := Ext.cell kk1 5
  have x6 := Ext.cell kk1 6
  simp [cells7] at x0 x1 x2 x3 x4 x5 x6
  have HM : Hid (∀ (w1 : World), OrdOk w1 → Calls Tryz.prog 17 #[A3 3 2 1, V7 x y z false false false t] w1 fun e W' => e = .returned (.tuple #[I n, I 0]) ∧ Below w1.heap.size w1 W') := HM
  clear hn hm kk1 hO
  go_enter Tryz.func12, Tryz.ntmps12
  go_wp2_with fail
  refine wp_region_look mixed (by kernel_rfl) ?_
  repeat (go_big_quiet_step (first | (go_at_call 9; exact calls_ext (some12_calls _)) | (go_at_call 17; exact calls_ext (HM.out _ (HOX _)))))
  refine wpQuiet_nil ?_
  intro X
  go_wp2
  go_ret
  exact ⟨rfl, then_below hB X.le⟩

set_option maxRecDepth 100000 in
theorem len111 : ((placesL 3 2 1 (1, 1, 1, false, false, false, false)).length : Int) = 6 := by kernel_rfl
set_option maxRecDepth 100000 in
theorem len311 : ((placesL 3 2 1 (3, 1, 1, false, false, false, false)).length : Int) = 2 := by kernel_rfl
set_option maxRecDepth 100000 in
theorem len211 : ((placesL 3 2 1 (2, 1, 1, false, false, false, false)).length : Int) = 6 := by kernel_rfl
set_option maxRecDepth 100000 in
theorem len211t : ((placesL 3 2 1 (2, 1, 1, false, false, false, true)).length : Int) = 9 := by kernel_rfl
set_option maxRecDepth 100000 in
theorem len411 : ((placesL 3 2 1 (4, 1, 1, false, false, false, false)).length : Int) = 0 := by kernel_rfl
theorem mayx (a : Int) (h : 1 ≤ a ∧ a ≤ 16) : mayD a 1 1 := ⟨h, ⟨by decide, by decide⟩, by decide, by decide⟩

set_option maxRecDepth 100000 in
set_option maxHeartbeats 2000000 in
theorem alive12_calls (w : World) (hO : OrdOk w) : Calls Tryz.prog 11 #[] w fun e W' => e = .returned (.bool true) ∧ Below w.heap.size w W' := by
  have HO : Hid (OrdOk w) := hO
  have HS : Hid (∀ (a : Int) (t : Bool) (w1 : World), Calls Tryz.prog 10 #[I a, I 1, I 1, .bool t] w1 fun e W' => e = .returned (V7 a 1 1 false false false t) ∧ Below w1.heap.size w1 W') := fun a t w1 => shaped12_calls a 1 1 t w1
  have M1 : Hid (∀ w1, OrdOk w1 → Calls Tryz.prog 12 #[V7 1 1 1 false false false false, I 6] w1 fun e W' => e = .returned (.bool true) ∧ Below w1.heap.size w1 W') := fun w1 h => many12_calls w1 h (mayx 1 (by decide)) len111
  have M2 : Hid (∀ w1, OrdOk w1 → Calls Tryz.prog 12 #[V7 3 1 1 false false false false, I 2] w1 fun e W' => e = .returned (.bool true) ∧ Below w1.heap.size w1 W') := fun w1 h => many12_calls w1 h (mayx 3 (by decide)) len311
  have M3 : Hid (∀ w1, OrdOk w1 → Calls Tryz.prog 12 #[V7 2 1 1 false false false false, I 6] w1 fun e W' => e = .returned (.bool true) ∧ Below w1.heap.size w1 W') := fun w1 h => many12_calls w1 h (mayx 2 (by decide)) len211
  have M4 : Hid (∀ w1, OrdOk w1 → Calls Tryz.prog 12 #[V7 2 1 1 false false false true, I 9] w1 fun e W' => e = .returned (.bool true) ∧ Below w1.heap.size w1 W') := fun w1 h => many12_calls w1 h (mayx 2 (by decide)) len211t
  clear hO
  go_enter Tryz.func11, Tryz.ntmps11
  go_wp2_with fail
  refine (HS.out 1 false _).mono ?_
  rintro e w1 ⟨rfl, hB⟩
  have hT := hB
  clear hB
  go_wp2_with fail
  refine (M1.out _ (HO.out.later hT)).mono ?_
  rintro e w2 ⟨rfl, hB⟩
  replace hT := then_below hT hB
  clear hB
  go_wp2_with fail
  refine (HS.out 3 false _).mono ?_
  rintro e w3 ⟨rfl, hB⟩
  replace hT := then_below hT hB
  clear hB
  go_wp2_with fail
  refine (M2.out _ (HO.out.later hT)).mono ?_
  rintro e w4 ⟨rfl, hB⟩
  replace hT := then_below hT hB
  clear hB
  go_wp2_with fail
  refine (HS.out 2 false _).mono ?_
  rintro e w5 ⟨rfl, hB⟩
  replace hT := then_below hT hB
  clear hB
  go_wp2_with fail
  refine (M3.out _ (HO.out.later hT)).mono ?_
  rintro e w6 ⟨rfl, hB⟩
  replace hT := then_below hT hB
  clear hB
  go_wp2_with fail
  refine (HS.out 2 true _).mono ?_
  rintro e w7 ⟨rfl, hB⟩
  replace hT := then_below hT hB
  clear hB
  go_wp2_with fail
  refine (M4.out _ (HO.out.later hT)).mono ?_
  rintro e w8 ⟨rfl, hB⟩
  replace hT := then_below hT hB
  clear hB
  go_wp2
  go_ret
  exact ⟨rfl, hT⟩

end Go.Proofs.YtfbegeopiakccaaGreatDoor

/-
  What All answers, whatever it is handed; whether a machine is small.
-/
namespace Go.Proofs.YtfbegeopiakccaaGreatDoor
open Go Go.RowKit Go.Shelf Go.Maps

attribute [local go_sem] Oper.semAt_some ext_const ixI0 ixI1 ixI2

/-- What All answers. -/
def alE (d0 d1 d2 : Int) (u : Wt) (mw lw : List Nat) : Int := if okDB d0 d1 d2 && okDB u.1 u.2.1 u.2.2.1 then (if mayW (d0 * d1 * d2).toNat mw lw then 0 else 8) else 8
def alL (d0 d1 d2 : Int) (u : Wt) (mw lw : List Nat) : List Pl := if alE d0 d1 d2 u mw lw = 0 then clearT d0 d1 d2 (turnsT u) mw lw else []
theorem mayT_ok {u : Wt} : mayT u ↔ okDB u.1 u.2.1 u.2.2.1 = true := by
  obtain ⟨x, y, z, p, q, r, t⟩ := u
  rw [okDB_iff]
  exact mayT_D
theorem alE_cases (d0 d1 d2 : Int) (u : Wt) (mw lw : List Nat) : (mayD d0 d1 d2 ∧ mayT u ∧ mayW (d0 * d1 * d2).toNat mw lw = true ∧ alE d0 d1 d2 u mw lw = 0) ∨ alE d0 d1 d2 u mw lw = 8 := by
  unfold alE
  cases h1 : okDB d0 d1 d2
  · exact .inr rfl
  · cases h2 : okDB u.1 u.2.1 u.2.2.1
    · exact .inr rfl
    · cases h3 : mayW (d0 * d1 * d2).toNat mw lw
      · exact .inr rfl
      · exact .inl ⟨(okDB_iff _ _ _).1 h1, mayT_ok.2 h2, rfl, rfl⟩
theorem sall_calls {d0 d1 d2 : Int} {u : Wt} {vm vl : Value} {mw lw : List Nat} (w : World) (hO : OrdOk w) (hM : Wds w vm mw) (hL : Wds w vl lw) :
    Calls Tryz.prog 8 #[A3 d0 d1 d2, W7 u, vm, vl] w fun e W' => ∃ v, e = .returned (.tuple #[v, I (alE d0 d1 d2 u mw lw)]) ∧ Lp W' w.heap.size v (alL d0 d1 d2 u mw lw) ∧ Below w.heap.size w W' := by
  by_cases h : mayD d0 d1 d2 ∧ mayT u
  · have h1 := (okDB_iff _ _ _).2 h.1
    have h2 := mayT_ok.1 h.2
    cases h3 : mayW (d0 * d1 * d2).toNat mw lw
    · have e : alE d0 d1 d2 u mw lw = 8 := by simp [alE, h1, h2, h3]
      refine (sall_bad w h.1 h.2 hM hL h3).mono ?_
      rintro x W' ⟨rfl, hB⟩
      exact ⟨_, by rw [e], by rw [alL, if_neg (by rw [e]; decide)]; exact Lp.nil _ _, hB⟩
    · have e : alE d0 d1 d2 u mw lw = 0 := by simp [alE, h1, h2, h3]
      refine (sall_yes w hO h.1 h.2 hM hL h3).mono ?_
      rintro x W' ⟨v, rfl, hv, hB⟩
      exact ⟨v, by rw [e], by rw [alL, if_pos e]; exact hv, hB⟩
  · have e : alE d0 d1 d2 u mw lw = 8 := by
      unfold alE
      rw [if_neg]
      intro hh
      rw [Bool.and_eq_true] at hh
      exact h ⟨(okDB_iff _ _ _).1 hh.1, mayT_ok.2 hh.2⟩
    refine (sall_no w h).mono ?_
    rintro x W' ⟨rfl, hB⟩
    exact ⟨_, by rw [e], by rw [alL, if_neg (by rw [e]; decide)]; exact Lp.nil _ _, hB⟩
theorem al_len {d0 d1 d2 : Int} {u : Wt} {mw lw : List Nat} : (alL d0 d1 d2 u mw lw).length ≤ 24576 := by
  unfold alL
  split
  · rename_i h
    rcases alE_cases d0 d1 d2 u mw lw with ⟨h1, h2, _⟩ | h8
    · have a := clear_le (d0 := d0) (d1 := d1) (d2 := d2) (turnsT u) mw lw
      have b := places_len h1 h2
      rw [← every_len h1 (turns_all h2)] at b
      have c := places_bd h1 h2
      omega
    · rw [h8] at h; exact absurd h (by decide)
  · simp

/-- Whether a machine has at most 64 midplanes, if it may be. -/
def smB (d0 d1 d2 : Int) : Bool := if okDB d0 d1 d2 then decide (d0 * d1 * d2 ≤ 64) else true
theorem smB_no {d0 d1 d2 : Int} (h : ¬ mayD d0 d1 d2) : smB d0 d1 d2 = true := by
  unfold smB
  rw [if_neg (fun e => h ((okDB_iff _ _ _).1 e))]
theorem smB_yes {d0 d1 d2 : Int} (h : mayD d0 d1 d2) : smB d0 d1 d2 = decide (d0 * d1 * d2 ≤ 64) := by
  unfold smB
  rw [if_pos ((okDB_iff _ _ _).2 h)]

set_option maxRecDepth 100000 in
set_option maxHeartbeats 4000000 in
theorem small12_calls (d0 d1 d2 : Int) (w : World) : Calls Tryz.prog 13 #[A3 d0 d1 d2] w fun e W' => e = .returned (.bool (smB d0 d1 d2)) ∧ Below w.heap.size w W' := by
  have hB : Below w.heap.size w (w.alloc (.cells #[I d0, I d1, I d2] 27)) := (Below.refl _ w).alloc (Nat.le_refl _) _
  by_cases h0 : d0 < 1
  · have e := smB_no (d0 := d0) (d1 := d1) (d2 := d2) (fun h => by have := h.1.1; omega)
    go_enter Tryz.func13, Tryz.ntmps13
    go_wp2
    refine wp_loop_rounds 1 ?_
    rw [rounds_succ]
    go_wp2
    go_ret
    exact ⟨by rw [e]; rfl, hB⟩
  · have g0 : decide (d0 < 1) = false := by simpa using h0
    by_cases h0' : 16 < d0
    · have e := smB_no (d0 := d0) (d1 := d1) (d2 := d2) (fun h => by have := h.1.2; omega)
      go_enter Tryz.func13, Tryz.ntmps13
      go_wp2
      refine wp_loop_rounds 1 ?_
      rw [rounds_succ]
      go_wp2
      go_ret
      exact ⟨by rw [e]; rfl, hB⟩
    · have g0' : decide (16 < d0) = false := by simpa using h0'
      by_cases h1 : d1 < 1
      · have e := smB_no (d0 := d0) (d1 := d1) (d2 := d2) (fun h => by have := h.2.1.1; omega)
        go_enter Tryz.func13, Tryz.ntmps13
        go_wp2
        refine wp_loop_rounds 2 ?_
        rw [rounds_succ]
        go_wp2
        rw [rounds_succ]
        go_wp2
        go_ret
        exact ⟨by rw [e]; rfl, hB⟩
      · have g1 : decide (d1 < 1) = false := by simpa using h1
        by_cases h1' : 16 < d1
        · have e := smB_no (d0 := d0) (d1 := d1) (d2 := d2) (fun h => by have := h.2.1.2; omega)
          go_enter Tryz.func13, Tryz.ntmps13
          go_wp2
          refine wp_loop_rounds 2 ?_
          rw [rounds_succ]
          go_wp2
          rw [rounds_succ]
          go_wp2
          go_ret
          exact ⟨by rw [e]; rfl, hB⟩
        · have g1' : decide (16 < d1) = false := by simpa using h1'
          by_cases h2 : d2 < 1
          · have e := smB_no (d0 := d0) (d1 := d1) (d2 := d2) (fun h => by have := h.2.2.1; omega)
            go_enter Tryz.func13, Tryz.ntmps13
            go_wp2
            refine wp_loop_rounds 3 ?_
            rw [rounds_succ]
            go_wp2
            rw [rounds_succ]
            go_wp2
            rw [rounds_succ]
            go_wp2
            go_ret
            exact ⟨by rw [e]; rfl, hB⟩
          · have g2 : decide (d2 < 1) = false := by simpa using h2
            by_cases h2' : 16 < d2
            · have e := smB_no (d0 := d0) (d1 := d1) (d2 := d2) (fun h => by have := h.2.2.2; omega)
              go_enter Tryz.func13, Tryz.ntmps13
              go_wp2
              refine wp_loop_rounds 3 ?_
              rw [rounds_succ]
              go_wp2
              rw [rounds_succ]
              go_wp2
              rw [rounds_succ]
              go_wp2
              go_ret
              exact ⟨by rw [e]; rfl, hB⟩
            · have g2' : decide (16 < d2) = false := by simpa using h2'
              have hm : mayD d0 d1 d2 := ⟨⟨by omega, by omega⟩, ⟨by omega, by omega⟩, by omega, by omega⟩
              have e := smB_yes hm
              have HE : Hid (smB d0 d1 d2 = decide (d0 * d1 * d2 ≤ 64)) := e
              have b1 : 1 ≤ d0 * d1 ∧ d0 * d1 ≤ 256 := by
                have q1 := Int.mul_le_mul (show d0 ≤ 16 by omega) (show d1 ≤ 16 by omega) (by omega) (by omega)
                have q2 := Int.mul_le_mul (show 1 ≤ d0 by omega) (show 1 ≤ d1 by omega) (by omega) (by omega)
                omega
              have b2 := N_bd hm
              clear e hm
              go_enter Tryz.func13, Tryz.ntmps13
              go_wp2
              refine wp_loop_rounds 4 ?_
              rw [rounds_succ]
              go_wp2
              rw [rounds_succ]
              go_wp2
              rw [rounds_succ]
              go_wp2
              rw [rounds_succ]
              go_wp2
              go_ret
              exact ⟨by rw [HE.out]; rfl, hB⟩

end Go.Proofs.YtfbegeopiakccaaGreatDoor

/-
  What SpotsHas asks of the list of places, without a program.
-/
namespace Go.Proofs.YtfbegeopiakccaaGreatDoor
open Go Go.RowKit Go.Shelf Go.Maps

def cntP (L : List Pl) (x : Pl) (k : Nat) : Nat := (L.take k).countP (fun y => eqP y x)
theorem cnt_yes {L : List Pl} {x : Pl} {k : Nat} (hk : k < L.length) (h : eqP (L.getD k zP) x = true) : cntP L x (k + 1) = cntP L x k + 1 := by
  unfold cntP
  rw [List.take_succ_eq_append_getElem hk, List.countP_append]
  simp [hk] at h
  simp [h]
theorem cnt_no {L : List Pl} {x : Pl} {k : Nat} (hk : k < L.length) (h : eqP (L.getD k zP) x = false) : cntP L x (k + 1) = cntP L x k := by
  unfold cntP
  rw [List.take_succ_eq_append_getElem hk, List.countP_append]
  simp [hk] at h
  simp [h]
theorem cntP_le (L : List Pl) (x : Pl) (k : Nat) : cntP L x k ≤ k := by
  unfold cntP
  exact Nat.le_trans List.countP_le_length (by simp; omega)

theorem may_err {d0 d1 d2 : Int} (h : mayD d0 d1 d2) (p : Pl) : mayL d0 d1 d2 p = true ↔ errP d0 d1 d2 p.1 p.2.1 p.2.2.1 p.2.2.2 = 0 := by
  constructor
  · exact fun hp => errP_ok h (mayL_iff.1 hp)
  · intro e
    rcases errP_cases d0 d1 d2 p.1 p.2.1 p.2.2.1 p.2.2.2 with ⟨_, hp, _⟩ | ⟨he, _⟩
    · exact mayL_iff.2 hp
    · rw [e] at he
      exact absurd he (by decide)
theorem is_err {d0 d1 d2 : Int} {u : Wt} (h : mayD d0 d1 d2) (hu : mayT u) (p : Pl) : isE d0 d1 d2 u p.1 p.2.1 p.2.2.1 p.2.2.2 = errP d0 d1 d2 p.1 p.2.1 p.2.2.1 p.2.2.2 := by
  unfold isE
  rw [(okDB_iff _ _ _).2 h, mayT_ok.1 hu]
  rfl

/-- Each that is listed is one, and free. -/
theorem has_each {d0 d1 d2 : Int} {u : Wt} {mw lw : List Nat} (h : mayD d0 d1 d2) (hu : mayT u) (hw : mayW (d0 * d1 * d2).toNat mw lw = true) {p : Pl} (hp : p ∈ clearT d0 d1 d2 (turnsT u) mw lw) :
    (isE d0 d1 d2 u p.1 p.2.1 p.2.2.1 p.2.2.2 = 0 ∧ isB d0 d1 d2 u p.1 p.2.1 p.2.2.1 p.2.2.2 = true) ∧ hoE d0 d1 d2 p.1 p.2.1 p.2.2.1 p.2.2.2 mw lw = 0 ∧ hoB d0 d1 d2 p.1 p.2.1 p.2.2.1 p.2.2.2 mw lw = true := by
  obtain ⟨⟨h1, h2⟩, h3⟩ := (clear_mem h (turns_all hu)).1 hp
  have e : isE d0 d1 d2 u p.1 p.2.1 p.2.2.1 p.2.2.2 = 0 := (is_err h hu p).trans ((may_err h p).1 h1)
  obtain ⟨e1, e2⟩ := hold_may h h1 hw
  refine ⟨⟨e, ?_⟩, e1, e2.trans h3⟩
  unfold isB
  rw [e, decide_eq_true rfl, Bool.true_and]
  exact h2
/-- How often a place is listed. -/
theorem has_count {d0 d1 d2 : Int} {u : Wt} {mw lw : List Nat} (h : mayD d0 d1 d2) (hu : mayT u) (hw : mayW (d0 * d1 * d2).toNat mw lw = true) (p : Pl) :
    cntP (clearT d0 d1 d2 (turnsT u) mw lw) p (clearT d0 d1 d2 (turnsT u) mw lw).length = if isE d0 d1 d2 u p.1 p.2.1 p.2.2.1 p.2.2.2 = 0 ∧ hoE d0 d1 d2 p.1 p.2.1 p.2.2.1 p.2.2.2 mw lw = 0 then (if isB d0 d1 d2 u p.1 p.2.1 p.2.2.1 p.2.2.2 && hoB d0 d1 d2 p.1 p.2.1 p.2.2.1 p.2.2.2 mw lw then 1 else 0) else 0 := by
  classical
  have hc := clear_count h (turns_all hu) mw lw p
  have e : cntP (clearT d0 d1 d2 (turnsT u) mw lw) p (clearT d0 d1 d2 (turnsT u) mw lw).length = (clearT d0 d1 d2 (turnsT u) mw lw).countP (fun y => decide (y = p)) := by
    unfold cntP
    rw [List.take_length]
    refine List.countP_congr fun y _ => ?_
    rw [eqP_iff, decide_eq_true_eq]
  rw [e, hc]
  cases hm : mayL d0 d1 d2 p
  · have : ¬ errP d0 d1 d2 p.1 p.2.1 p.2.2.1 p.2.2.2 = 0 := fun e => by rw [(may_err h p).2 e] at hm; cases hm
    rw [is_err h hu p, Bool.false_and, Bool.false_and, if_neg (by decide), if_neg (fun hh => this hh.1)]
  · have he := (may_err h p).1 hm
    have hi := (is_err h hu p).trans he
    obtain ⟨e1, e2⟩ := hold_may h hm hw
    have hb : isB d0 d1 d2 u p.1 p.2.1 p.2.2.1 p.2.2.2 = isT (turnsT u) p := by
      unfold isB
      rw [hi, decide_eq_true rfl, Bool.true_and]
    have hq : isE d0 d1 d2 u p.1 p.2.1 p.2.2.1 p.2.2.2 = 0 ∧ hoE d0 d1 d2 p.1 p.2.1 p.2.2.1 p.2.2.2 mw lw = 0 := ⟨hi, e1⟩
    rw [hb, e2, Bool.true_and]
    exact (if_pos hq).symm

end Go.Proofs.YtfbegeopiakccaaGreatDoor

/-
  A set among the arguments: as it came in, and a copy of it.
-/
namespace Go.Proofs.YtfbegeopiakccaaGreatDoor
open Go Go.RowKit Go.Shelf

/-- A row of words that came in. -/
def ArgW (W : World) (v : Value) (ws : List Nat) : Prop := Wds W v ws ∧ (v = .slice none 0 0 ∨ ∃ ad cap, v = .slice (some ad) ws.length cap)
def ArgI (W : World) (v : Value) (xs : List Int) : Prop := Its W v xs ∧ (v = .slice none 0 0 ∨ ∃ ad cap, v = .slice (some ad) xs.length cap)

theorem owns_wds {W : World} {base : Nat} {v : Value} {ws : List Nat} (hw : ∀ x ∈ ws, x < 18446744073709551616) (h : W.ownsRow base 33 1 v ws.length (ws.map U)) : Wds W v ws := by
  obtain ⟨h1, h2⟩ := h
  refine ⟨hw, ?_⟩
  rcases h2 with ⟨rfl, hn⟩ | ⟨g, cap, cur, rfl, hg, hh, hc, hc2, hs, ht⟩
  · have : ws = [] := List.length_eq_zero_iff.1 hn
    subst this
    exact Sl.nil W
  · refine ⟨_, cap, by simp, fun k hk => ⟨g, 0, rfl, (Array.getElem?_eq_some_iff.1 hh).1, ?_⟩⟩
    have hb : Blk W g 33 cur := hh
    rw [Nat.zero_add, hb.cell k]
    have := congrArg (fun l => l[k]?) ht
    simp only [Nat.mul_one] at this
    rw [List.length_map] at hk
    rw [List.getElem?_take_of_lt hk, Array.getElem?_toList] at this
    exact this

/-- 'own = append(own, s...)', own nil. -/
theorem wpList_copy {ops : Array Oper} {rest : List Oper} {o : Oper} {a : Act} {Q : Exit → Act → World → Prop} {W : World} {v : Value} {ws : List Nat} (hgd : o.guard = none) (s x : Operand)
    (ho : o.op = .call { callee := .builtin .append, args := #[s, x], argTypes := #[35, 35] }) (hs : a.eval s = .slice none 0 0) (hx : a.eval x = v)
    (hA : ArgW W v ws) (hl : ws.length ≤ 1000)
    (h : ∀ v' w', Wds w' v' ws → Below W.heap.size W w' → wpList Tryz.prog ops Q rest (a.put o.dst v') w') : wpList Tryz.prog ops Q (o :: rest) a W := by
  obtain ⟨i0, hi, hz0, hz1, hz2⟩ := info_parts info_u64
  obtain ⟨hW, rfl | ⟨ad, cap, rfl⟩⟩ := hA
  · have e : ws = [] := by
      obtain ⟨ao, c, e, _⟩ := hW.view
      simp only [Value.slice.injEq] at e
      exact List.length_eq_zero_iff.1 e.2.1.symm
    subst e
    exact wpList_append_own_none hgd s x 35 ho W.heap.size 33 i0 1 Tryz.underlying35 hi (.slice none 0 0) 0 [] hs (World.ownsRow_nil _ _ _ _) hx (h _ _ (Wds.nil W) (Below.refl _ _))
  · refine wpList_append_own (w := W) hgd s x 35 ho W.heap.size 33 i0 (.int .u64 0) 1 8 Tryz.underlying35 hi hz0 hz1 hz2 rfl (by decide) (.slice none 0 0) 0 [] hs (World.ownsRow_nil _ _ _ _) ad ws.length cap (ws.map U) hx (by simp) ?_ ?_ ?_ ?_ ?_ ?_
    · intro j u hj
      obtain ⟨ao, c, e, hv⟩ := hW.view
      simp only [Value.slice.injEq] at e
      obtain ⟨rfl, -, -⟩ := e
      have hjl : j < ws.length := by
        have := (List.getElem?_eq_some_iff.1 hj).1
        simpa using this
      obtain ⟨g, off, e, hg, hc⟩ := hv j hjl
      simp only [Option.some.injEq] at e
      subst e
      have : (⟨g, off, none⟩ : Addr).add j = ⟨g, off + j, none⟩ := by
        unfold Addr.add
        split
        · rename_i h0; subst h0; rfl
        · rfl
      rw [this, hc, ← hj]
      simp [hjl]
    · intro u hu
      obtain ⟨y, _, rfl⟩ := List.mem_map.1 hu
      rfl
    · unfold maxLen; omega
    · omega
    · omega
    · intro v' w1 hown' hgrow _
      refine h v' w1 (owns_wds hW.1 (by simpa using hown')) ?_
      exact (Below.refl _ W).grown hgrow (Nat.le_refl _) (fun k hk => by cases hk)

end Go.Proofs.YtfbegeopiakccaaGreatDoor

/-
  The statement SpotsHas, walked.
-/
namespace Go.Proofs.YtfbegeopiakccaaGreatDoor
open Go Go.RowKit Go.Shelf Go.Maps

attribute [local go_sem] Oper.semAt_some ext_const ixI0 ixI1 ixI2
attribute [local go_sem high] eq_place

/-- What the walk keeps of a list and the boxes. -/
structure HasPv (w : World) (B : Nat) (base : Nat) (d0 d1 d2 : Int) (x y z : Int) (f g h t : Bool) (b : Bx) (p q r : Bool) (v : Value) (L : List Pl) (W : World) : Prop where
  below : Below w.heap.size w W
  s : Lp W base v L
  d : Blk W B 27 #[I d0, I d1, I d2]
  u : Blk W (B + 1) 31 #[I x, I y, I z, .bool f, .bool g, .bool h, .bool t]
  p : Blk W (B + 1 + 1) 40 (C9 b p q r)
theorem HasPv.later {w W W' : World} {B base : Nat} {d0 d1 d2 x y z : Int} {f g h t : Bool} {b : Bx} {p q r : Bool} {v : Value} {L : List Pl} (k : HasPv w B base d0 d1 d2 x y z f g h t b p q r v L W) (hb : Below W.heap.size W W') : HasPv w B base d0 d1 d2 x y z f g h t b p q r v L W' :=
  ⟨then_below k.below hb, k.s.later hb, k.d.later hb, k.u.later hb, k.p.later hb⟩

set_option maxRecDepth 100000 in
set_option maxHeartbeats 16000000 in
theorem spotsHas_walk {d0 d1 d2 : Int} {u : Wt} {vm vl : Value} {mw lw : List Nat} {b : Bx} {p q r : Bool} (w : World) (hO : OrdOk w) (hM : Wds w vm mw) (hL : Wds w vl lw) :
    Calls Tryz.prog 5 #[A3 d0 d1 d2, W7 u, vm, vl, P9 b p q r] w fun e W' => e = .returned (.bool true) ∧ Below w.heap.size w W' := by
  have mixed : Tryz.prog.follows .mixedOrders = true := by kernel_rfl
  have HO : Hid (OrdOk w) := hO
  have HA : Hid (∀ w1, OrdOk w1 → Calls Tryz.prog 11 #[] w1 fun e W' => e = .returned (.bool true) ∧ Below w1.heap.size w1 W') := fun w1 h => alive12_calls w1 h
  have HS : Hid (∀ w1, Calls Tryz.prog 13 #[A3 d0 d1 d2] w1 fun e W' => e = .returned (.bool (smB d0 d1 d2)) ∧ Below w1.heap.size w1 W') := fun w1 => small12_calls d0 d1 d2 w1
  have HAl : Hid (∀ w1, Below w.heap.size w w1 → Calls Tryz.prog 8 #[A3 d0 d1 d2, W7 u, vm, vl] w1 fun e W' => ∃ v, e = .returned (.tuple #[v, I (alE d0 d1 d2 u mw lw)]) ∧ Lp W' w1.heap.size v (alL d0 d1 d2 u mw lw) ∧ Below w1.heap.size w1 W') := fun w1 h => sall_calls w1 (hO.later h) (hM.later h) (hL.later h)
  have HIs : Hid (∀ (y : Pl) (w1 : World), Below w.heap.size w w1 → Calls Tryz.prog 15 #[A3 d0 d1 d2, W7 u, P9 y.1 y.2.1 y.2.2.1 y.2.2.2] w1 fun e W' => e = .returned (.tuple #[.bool (isB d0 d1 d2 u y.1 y.2.1 y.2.2.1 y.2.2.2), I (isE d0 d1 d2 u y.1 y.2.1 y.2.2.1 y.2.2.2)]) ∧ Below w1.heap.size w1 W') := fun y w1 h => sis_calls w1 (hO.later h)
  have HHo : Hid (∀ (y : Pl) (w1 : World), Below w.heap.size w w1 → Calls Tryz.prog 20 #[A3 d0 d1 d2, P9 y.1 y.2.1 y.2.2.1 y.2.2.2, vm, vl] w1 fun e W' => e = .returned (.tuple #[.bool (hoB d0 d1 d2 y.1 y.2.1 y.2.2.1 y.2.2.2 mw lw), I (hoE d0 d1 d2 y.1 y.2.1 y.2.2.1 y.2.2.2 mw lw)]) ∧ Below w1.heap.size w1 W') := fun y w1 h => holds_calls _ _ _ w1 (hM.later h) (hL.later h)
  have hcs := alE_cases d0 d1 d2 u mw lw
  have HLn : Hid ((alL d0 d1 d2 u mw lw).length ≤ 24576) := al_len
  have HEach : Hid (alE d0 d1 d2 u mw lw = 0 → ∀ k, k < (alL d0 d1 d2 u mw lw).length → ∀ y, (alL d0 d1 d2 u mw lw).getD k zP = y → (isE d0 d1 d2 u y.1 y.2.1 y.2.2.1 y.2.2.2 = 0 ∧ isB d0 d1 d2 u y.1 y.2.1 y.2.2.1 y.2.2.2 = true) ∧ hoE d0 d1 d2 y.1 y.2.1 y.2.2.1 y.2.2.2 mw lw = 0 ∧ hoB d0 d1 d2 y.1 y.2.1 y.2.2.1 y.2.2.2 mw lw = true) := fun h0 k hk y hy => by
    rcases hcs with ⟨h1, h2, h3, _⟩ | h8
    · have e : alL d0 d1 d2 u mw lw = clearT d0 d1 d2 (turnsT u) mw lw := by rw [alL, if_pos h0]
      rw [e] at hk hy
      have hm : y ∈ clearT d0 d1 d2 (turnsT u) mw lw := by
        rw [← hy, List.getD_eq_getElem?_getD, List.getElem?_eq_getElem hk]
        exact List.getElem_mem hk
      exact has_each h1 h2 h3 hm
    · rw [h8] at h0; exact absurd h0 (by decide)
  have HCount : Hid (alE d0 d1 d2 u mw lw = 0 → cntP (alL d0 d1 d2 u mw lw) (b, p, q, r) (alL d0 d1 d2 u mw lw).length = if isE d0 d1 d2 u b p q r = 0 ∧ hoE d0 d1 d2 b p q r mw lw = 0 then (if isB d0 d1 d2 u b p q r && hoB d0 d1 d2 b p q r mw lw then 1 else 0) else 0) := fun h0 => by
    rcases hcs with ⟨h1, h2, h3, _⟩ | h8
    · have e : alL d0 d1 d2 u mw lw = clearT d0 d1 d2 (turnsT u) mw lw := by rw [alL, if_pos h0]
      rw [e]
      exact has_count h1 h2 h3 (b, p, q, r)
    · rw [h8] at h0; exact absurd h0 (by decide)
  have HNo : Hid (alE d0 d1 d2 u mw lw ≠ 0 → alL d0 d1 d2 u mw lw = []) := fun h => by rw [alL, if_neg h]
  have HIp : Hid (∀ (w1 : World), Below w.heap.size w w1 → Calls Tryz.prog 15 #[A3 d0 d1 d2, W7 u, P9 b p q r] w1 fun e W' => e = .returned (.tuple #[.bool (isB d0 d1 d2 u b p q r), I (isE d0 d1 d2 u b p q r)]) ∧ Below w1.heap.size w1 W') := fun w1 h => HIs.out (b, p, q, r) w1 h
  have HHp : Hid (∀ (w1 : World), Below w.heap.size w w1 → Calls Tryz.prog 20 #[A3 d0 d1 d2, P9 b p q r, vm, vl] w1 fun e W' => e = .returned (.tuple #[.bool (hoB d0 d1 d2 b p q r mw lw), I (hoE d0 d1 d2 b p q r mw lw)]) ∧ Below w1.heap.size w1 W') := fun w1 h => HHo.out (b, p, q, r) w1 h
  obtain ⟨am, cm, rfl, _⟩ := hM.view
  obtain ⟨al, cl, rfl, _⟩ := hL.view
  obtain ⟨x, y, z, f, g, h, t⟩ := u
  clear hO hM hL hcs
  dsimp only [W7] at HAl HIs HIp ⊢
  generalize mw.length = nm at *
  generalize lw.length = nl at *
  generalize smB d0 d1 d2 = sm at *
  obtain ⟨W, hW, hB0, k0, k1, k2⟩ := three_is w #[I d0, I d1, I d2] #[I x, I y, I z, .bool f, .bool g, .bool h, .bool t] (C9 b p q r) 27 31 40
  have HW : Hid (((w.alloc (.cells #[I d0, I d1, I d2] 27)).alloc (.cells #[I x, I y, I z, .bool f, .bool g, .bool h, .bool t] 31)).alloc (.cells (C9 b p q r) 40) = W) := hW
  clear hW
  go_enter Tryz.func5, Tryz.ntmps5
  go_wp2_with fail
  rw [HW.out]
  refine (HA.out _ (HO.out.later hB0)).mono ?_
  rintro e w1 ⟨rfl, hB⟩
  have hT := then_below hB0 hB
  replace k0 := k0.later hB
  replace k1 := k1.later hB
  replace k2 := k2.later hB
  clear hB HW hB0
  by_cases q1 : (100 : Int) < (nm : Int)
  · go_wp2
    go_ret
    exact ⟨rfl, hT⟩
  have g1 : decide ((100 : Int) < (nm : Int)) = false := by simpa using q1
  by_cases q2 : (100 : Int) < (nl : Int)
  · go_wp2
    go_ret
    exact ⟨rfl, hT⟩
  have g2 : decide ((100 : Int) < (nl : Int)) = false := by simpa using q2
  obtain ⟨a0, a1, a2, az⟩ := k0.three (Below.refl _ _)
  go_wp2_with fail
  refine (HS.out _).mono ?_
  rintro e w2 ⟨rfl, hB⟩
  replace hT := then_below hT hB
  replace k0 := k0.later hB
  replace k1 := k1.later hB
  replace k2 := k2.later hB
  clear hB a0 a1 a2 az W
  cases sm
  · go_wp2
    go_ret
    exact ⟨rfl, hT⟩
  obtain ⟨a0, a1, a2, az⟩ := k0.three (Below.refl _ _)
  obtain ⟨s0, s1, s2, s3, s4, s5, s6⟩ := k1.seven
  have sz := k1.lt
  go_wp2_with fail
  refine (HAl.out _ hT).mono ?_
  rintro e w3 ⟨v, rfl, hL, hB⟩
  replace hT := then_below hT hB
  replace k0 := k0.later hB
  replace k1 := k1.later hB
  replace k2 := k2.later hB
  clear hB a0 a1 a2 az s0 s1 s2 s3 s4 s5 s6 sz HA HS HAl
  generalize hE : alE d0 d1 d2 (x, y, z, f, g, h, t) mw lw = er at *
  generalize hLL : alL d0 d1 d2 (x, y, z, f, g, h, t) mw lw = L at *
  obtain ⟨ao, cap, rfl, _⟩ := hL.view
  by_cases he : er ≠ 0
  · have hE0 : decide (er = 0) = false := by simpa using he
    have hE1 : (er != 0) = true := by simpa using he
    obtain rfl := HNo.out he
    go_wp2
    go_ret
    exact ⟨rfl, hT⟩
  have he : er = 0 := Decidable.not_not.1 he
  subst he
  replace HEach : Hid (∀ k, k < L.length → ∀ y', L.getD k zP = y' → (isE d0 d1 d2 (x, y, z, f, g, h, t) y'.1 y'.2.1 y'.2.2.1 y'.2.2.2 = 0 ∧ isB d0 d1 d2 (x, y, z, f, g, h, t) y'.1 y'.2.1 y'.2.2.1 y'.2.2.2 = true) ∧ hoE d0 d1 d2 y'.1 y'.2.1 y'.2.2.1 y'.2.2.2 mw lw = 0 ∧ hoB d0 d1 d2 y'.1 y'.2.1 y'.2.2.1 y'.2.2.2 mw lw = true) := HEach.out rfl
  have hco := HCount.out rfl
  clear HCount
  have HCount : Hid (cntP L (b, p, q, r) L.length = if isE d0 d1 d2 (x, y, z, f, g, h, t) b p q r = 0 ∧ hoE d0 d1 d2 b p q r mw lw = 0 then (if isB d0 d1 d2 (x, y, z, f, g, h, t) b p q r && hoB d0 d1 d2 b p q r mw lw then 1 else 0) else 0) := hco
  clear hco
  have pv : HasPv w w.heap.size w2.heap.size d0 d1 d2 x y z f g h t b p q r (.slice ao L.length cap) L w3 := ⟨hT, hL, k0, k1, k2⟩
  clear hL k0 k1 k2 hT HNo hE hLL
  go_wp2_with fail
  go_loopw [14, 15] (fun nn i wr => ∃ (k : Nat), k ≤ L.length ∧ i = .int .i64 k ∧ nn = .int .i64 (cntP L (b, p, q, r) k) ∧ HasPv w w.heap.size w2.heap.size d0 d1 d2 x y z f g h t b p q r (.slice ao L.length cap) L wr) (fun _ i _ => L.length - (RowKit.intOf i).toNat)
  case atStart => exact ⟨0, by omega, rfl, rfl, pv⟩
  case round =>
    clear pv
    obtain ⟨k, hk, rfl, rfl, pv⟩ := hrel
    by_cases hlt : (k : Int) < (L.length : Int)
    · have hkL : k < L.length := by omega
      obtain ⟨gg, b', p', q', r', hao, hy, hat0⟩ := pv.s.at hkL
      subst hao
      have hEk := HEach.out k hkL _ hy
      obtain ⟨⟨i1, i2⟩, i3, i4⟩ := hEk
      have HIy := fun w1 (hb : Below w.heap.size w w1) => HIs.out (b', p', q', r') w1 hb
      have HHy := fun w1 (hb : Below w.heap.size w w1) => HHo.out (b', p', q', r') w1 hb
      dsimp only at HIy HHy i1 i2 i3 i4
      rw [i1, i2] at HIy
      rw [i3, i4] at HHy
      have HIy : Hid (∀ w1, Below w.heap.size w w1 → Calls Tryz.prog 15 #[A3 d0 d1 d2, V7 x y z f g h t, P9 b' p' q' r'] w1 fun e W' => e = .returned (.tuple #[.bool true, I 0]) ∧ Below w1.heap.size w1 W') := HIy
      have HHy : Hid (∀ w1, Below w.heap.size w w1 → Calls Tryz.prog 20 #[A3 d0 d1 d2, P9 b' p' q' r', .slice am nm cm, .slice al nl cl] w1 fun e W' => e = .returned (.tuple #[.bool true, I 0]) ∧ Below w1.heap.size w1 W') := HHy
      have HAt : Hid (∀ W', Lp W' w2.heap.size (.slice (some ⟨gg, 0, none⟩) L.length cap) L → At9 W' gg (k * 9) (b', p', q', r')) := fun W' hL' => by
        obtain ⟨g2, b2, p2, q2, r2, hao2, hy2, hat2⟩ := hL'.at hkL
        rw [hy] at hy2
        simp only [Prod.mk.injEq] at hy2
        obtain ⟨rfl, rfl, rfl, rfl⟩ := hy2
        have : gg = g2 := by simpa using hao2
        rw [this]
        exact hat2
      have HY : Hid (L.getD k zP = (b', p', q', r')) := hy
      clear hy i1 i2 i3 i4
      obtain ⟨x0, x1, x2, x3, x4, x5, x6, x7, x8⟩ := hat0.ext
      have y0 := Ext.cell pv.p 0
      have y1 := Ext.cell pv.p 1
      have y2 := Ext.cell pv.p 2
      have y3 := Ext.cell pv.p 3
      have y4 := Ext.cell pv.p 4
      have y5 := Ext.cell pv.p 5
      have y6 := Ext.cell pv.p 6
      have y7 := Ext.cell pv.p 7
      have y8 := Ext.cell pv.p 8
      simp at y0 y1 y2 y3 y4 y5 y6 y7 y8
      have HLn1 : L.length ≤ 24576 := HLn.out
      have hcl : cntP L (b, p, q, r) k ≤ k := cntP_le _ _ _
      cases hq : eqP (b', p', q', r') (b, p, q, r)
      · have HCk : Hid (cntP L (b, p, q, r) (k + 1) = cntP L (b, p, q, r) k) := cnt_no hkL (by rw [HY.out]; exact hq)
        generalize cntP L (b, p, q, r) k = n0 at *
        go_wp2_with fail
        refine wp_region_look mixed (by kernel_rfl) ?_
        repeat (go_big_quiet_step (fail))
        refine wpQuiet_nil ?_
        intro X
        have pv2 := pv.later X.le
        clear pv hat0 x0 x1 x2 x3 x4 x5 x6 x7 x8 y0 y1 y2 y3 y4 y5 y6 y7 y8
        generalize X.wd = W2 at *
        clear X
        have hat := HAt.out W2 pv2.s
        obtain ⟨x0, x1, x2, x3, x4, x5, x6, x7, x8⟩ := hat.ext
        have e0 := Ext.cell pv2.d 0
        have e1 := Ext.cell pv2.d 1
        have e2 := Ext.cell pv2.d 2
        have u0 := Ext.cell pv2.u 0
        have u1 := Ext.cell pv2.u 1
        have u2 := Ext.cell pv2.u 2
        have u3 := Ext.cell pv2.u 3
        have u4 := Ext.cell pv2.u 4
        have u5 := Ext.cell pv2.u 5
        have u6 := Ext.cell pv2.u 6
        simp at e0 e1 e2 u0 u1 u2 u3 u4 u5 u6
        have HI := fun (X : Ext W2) => HIy.out X.wd (below_ext pv2.below X)
        go_wp2_with fail
        refine wp_region_look mixed (by kernel_rfl) ?_
        repeat (go_big_quiet_step ((go_at_call 15; exact calls_ext (HI _))))
        refine wpQuiet_nil ?_
        intro X
        have pv3 := pv2.later X.le
        clear pv2 hat x0 x1 x2 x3 x4 x5 x6 x7 x8 e0 e1 e2 u0 u1 u2 u3 u4 u5 u6 HI
        generalize X.wd = W3 at *
        clear X
        have hat := HAt.out W3 pv3.s
        obtain ⟨x0, x1, x2, x3, x4, x5, x6, x7, x8⟩ := hat.ext
        have e0 := Ext.cell pv3.d 0
        have e1 := Ext.cell pv3.d 1
        have e2 := Ext.cell pv3.d 2
        simp at e0 e1 e2
        have HI := fun (X : Ext W3) => HHy.out X.wd (below_ext pv3.below X)
        go_wp2_with fail
        refine wp_region_look mixed (by kernel_rfl) ?_
        repeat (go_big_quiet_step ((go_at_call 20; exact calls_ext (HI _))))
        refine wpQuiet_nil ?_
        intro X
        have pv4 := pv3.later X.le
        clear pv3 hat x0 x1 x2 x3 x4 x5 x6 x7 x8 e0 e1 e2 HI
        generalize X.wd = W4 at *
        clear X
        go_wp2
        go_roundw
        case rel => exact ⟨k + 1, by omega, by go_num, by rw [HCk.out]; first | done | go_num, pv4⟩
        case measure => simp [RowKit.intOf]; omega
      · have HCk : Hid (cntP L (b, p, q, r) (k + 1) = cntP L (b, p, q, r) k + 1) := cnt_yes hkL (by rw [HY.out]; exact hq)
        generalize cntP L (b, p, q, r) k = n0 at *
        go_wp2_with fail
        refine wp_region_look mixed (by kernel_rfl) ?_
        repeat (go_big_quiet_step (fail))
        refine wpQuiet_nil ?_
        intro X
        have pv2 := pv.later X.le
        clear pv hat0 x0 x1 x2 x3 x4 x5 x6 x7 x8 y0 y1 y2 y3 y4 y5 y6 y7 y8
        generalize X.wd = W2 at *
        clear X
        have hat := HAt.out W2 pv2.s
        obtain ⟨x0, x1, x2, x3, x4, x5, x6, x7, x8⟩ := hat.ext
        have e0 := Ext.cell pv2.d 0
        have e1 := Ext.cell pv2.d 1
        have e2 := Ext.cell pv2.d 2
        have u0 := Ext.cell pv2.u 0
        have u1 := Ext.cell pv2.u 1
        have u2 := Ext.cell pv2.u 2
        have u3 := Ext.cell pv2.u 3
        have u4 := Ext.cell pv2.u 4
        have u5 := Ext.cell pv2.u 5
        have u6 := Ext.cell pv2.u 6
        simp at e0 e1 e2 u0 u1 u2 u3 u4 u5 u6
        have HI := fun (X : Ext W2) => HIy.out X.wd (below_ext pv2.below X)
        go_wp2_with fail
        refine wp_region_look mixed (by kernel_rfl) ?_
        repeat (go_big_quiet_step ((go_at_call 15; exact calls_ext (HI _))))
        refine wpQuiet_nil ?_
        intro X
        have pv3 := pv2.later X.le
        clear pv2 hat x0 x1 x2 x3 x4 x5 x6 x7 x8 e0 e1 e2 u0 u1 u2 u3 u4 u5 u6 HI
        generalize X.wd = W3 at *
        clear X
        have hat := HAt.out W3 pv3.s
        obtain ⟨x0, x1, x2, x3, x4, x5, x6, x7, x8⟩ := hat.ext
        have e0 := Ext.cell pv3.d 0
        have e1 := Ext.cell pv3.d 1
        have e2 := Ext.cell pv3.d 2
        simp at e0 e1 e2
        have HI := fun (X : Ext W3) => HHy.out X.wd (below_ext pv3.below X)
        go_wp2_with fail
        refine wp_region_look mixed (by kernel_rfl) ?_
        repeat (go_big_quiet_step ((go_at_call 20; exact calls_ext (HI _))))
        refine wpQuiet_nil ?_
        intro X
        have pv4 := pv3.later X.le
        clear pv3 hat x0 x1 x2 x3 x4 x5 x6 x7 x8 e0 e1 e2 HI
        generalize X.wd = W4 at *
        clear X
        go_wp2
        go_roundw
        case rel => exact ⟨k + 1, by omega, by go_num, by rw [HCk.out]; first | done | go_num, pv4⟩
        case measure => simp [RowKit.intOf]; omega
    · obtain rfl : k = L.length := by omega
      have HLn1 : L.length ≤ 24576 := HLn.out
      generalize cntP L (b, p, q, r) L.length = n0 at *
      generalize isE d0 d1 d2 (x, y, z, f, g, h, t) b p q r = e1 at *
      generalize isB d0 d1 d2 (x, y, z, f, g, h, t) b p q r = i1 at *
      generalize hoE d0 d1 d2 b p q r mw lw = e2 at *
      generalize hoB d0 d1 d2 b p q r mw lw = i2 at *
      have HI1 := HIp
      have HH1 := HHp
      clear HIs HHo HEach
      obtain ⟨a0, a1, a2, az⟩ := pv.d.three (Below.refl _ _)
      obtain ⟨s0, s1, s2, s3, s4, s5, s6⟩ := pv.u.seven
      have sz := pv.u.lt
      obtain ⟨⟨b0, b1, b2⟩, ⟨b3, b4, b5⟩, ⟨b6, b7, b8⟩, bz⟩ := pv.p.nine (Below.refl _ _)
      go_wp2_with fail
      refine (HI1.out _ pv.below).mono ?_
      rintro e w5 ⟨rfl, hB⟩
      have pv2 := pv.later hB
      clear pv hB a0 a1 a2 az s0 s1 s2 s3 s4 s5 s6 sz b0 b1 b2 b3 b4 b5 b6 b7 b8 bz
      obtain ⟨a0, a1, a2, az⟩ := pv2.d.three (Below.refl _ _)
      obtain ⟨⟨b0, b1, b2⟩, ⟨b3, b4, b5⟩, ⟨b6, b7, b8⟩, bz⟩ := pv2.p.nine (Below.refl _ _)
      go_wp2_with fail
      refine (HH1.out _ pv2.below).mono ?_
      rintro e w6 ⟨rfl, hB⟩
      have hT := then_below pv2.below hB
      clear pv2 hB a0 a1 a2 az b0 b1 b2 b3 b4 b5 b6 b7 b8 bz
      by_cases c1 : e1 = 0
      · subst c1
        by_cases c2 : e2 = 0
        · subst c2
          have hn : n0 = if i1 && i2 then 1 else 0 := by
            have := HCount.out
            simpa using this
          clear HCount
          cases i1
          · obtain rfl : n0 = 0 := by simpa using hn
            clear hn
            go_wp2
            go_ret
            exact ⟨rfl, hT⟩
          · cases i2
            · obtain rfl : n0 = 0 := by simpa using hn
              clear hn
              go_wp2
              go_ret
              exact ⟨rfl, hT⟩
            · obtain rfl : n0 = 1 := by simpa using hn
              clear hn
              go_wp2
              go_ret
              exact ⟨rfl, hT⟩
        · have hn : n0 = 0 := by
            have := HCount.out
            simpa [c2] using this
          subst hn
          have g1 : decide (e2 = 0) = false := by simpa using c2
          have g2 : (e2 != 0) = true := by simpa using c2
          clear HCount
          go_wp2
          go_ret
          exact ⟨rfl, hT⟩
      · have hn : n0 = 0 := by
          have := HCount.out
          simpa [c1] using this
        subst hn
        have g1 : decide (e1 = 0) = false := by simpa using c1
        have g2 : (e1 != 0) = true := by simpa using c1
        clear HCount
        go_wp2
        go_ret
        exact ⟨rfl, hT⟩

theorem spotsHas_run (d0 d1 d2 x y z : Int) (f g h t : Bool) (b : Bx) (p q r : Bool) {vm vl : Value} {mw lw : List Nat} (w : World) (hO : OrdOk w) (hM : ArgW w vm mw) (hL : ArgW w vl lw) :
    Calls Tryz.prog 5 #[A3 d0 d1 d2, V7 x y z f g h t, vm, vl, P9 b p q r] w fun e W' => e = .returned (.bool true) ∧ Below w.heap.size w W' := spotsHas_walk (u := (x, y, z, f, g, h, t)) w hO hM.1 hL.1

end Go.Proofs.YtfbegeopiakccaaGreatDoor

/-
  How the arguments of this seat's statements are opened: whole numbers, and rows of three of them.
-/
namespace Go.Proofs.YtfbegeopiakccaaGreatDoor
open Go.ChangeShapes Go.WideShapes Go.ChangeAt Go.RowKit

theorem own : ownKnob Tryz.prog.godebug = none := by kernel_rfl
theorem laidOut : laidOutB Tryz.prog = true := by kernel_rfl

theorem list3 {α : Type} (l : List α) (h : (⟨l⟩ : Array α).size = 3) : ∃ a b c, l = [a, b, c] := by
  match l, h with
  | [a, b, c], _ => exact ⟨a, b, c, rfl⟩

/-- A row of three whole numbers, by value. -/
theorem open_arr3 {P : Program} {w : World} {H : Type} {enc : TypeId × Value → H} {r : Reach} {b0 base : Nat} {spare : Nat → Bool} {held : Bool} {t e : TypeId} {v : Value} {d : DataW H} {p : List MemPlace}
    (ht : P.underlying t = some (.array 3 e)) (he : P.underlying e = some (.int .i64)) (hce : P.cellsOf e = 1) (hct : P.cellsOf t = 3)
    (hv : Value.okWide P w r b0 t v) (h : DataW.Trod enc P w base spare held t v d p) :
    ∃ a b c : Int, v = A3 a b c ∧ (Lit.int .i64 a).wf = true ∧ (Lit.int .i64 b).wf = true ∧ (Lit.int .i64 c).wf = true := by
  obtain ⟨cs, rfl, hsz, _⟩ : ∃ cs, v = .agg cs ∧ cs.size = P.cellsOf t ∧ Row.okWide P w r b0 t cs := by
    simpa [Value.okWide, ht] using hv
  rw [hct] at hsz
  obtain ⟨l⟩ := cs
  obtain ⟨c0, c1, c2, rfl⟩ := list3 l hsz
  obtain ⟨fuel, hf⟩ := h
  obtain ⟨y0, y1, y2, m, hx, hy0, hy1, hy2⟩ := trod_array3 ht hce hf
  obtain ⟨x0, e0, rfl, w0⟩ := DataW.trod_int he hy0
  obtain ⟨x1, e1, rfl, w1⟩ := DataW.trod_int he hy1
  obtain ⟨x2, e2, rfl, w2⟩ := DataW.trod_int he hy2
  simp at e0 e1 e2
  subst e0 e1 e2
  exact ⟨x0, x1, x2, rfl, w0, w1, w2⟩

theorem open_num {P : Program} {w : World} {H : Type} {enc : TypeId × Value → H} {r : Reach} {b0 base : Nat} {spare : Nat → Bool} {held : Bool} {t : TypeId} {k : IntKind} {v : Value} {d : DataW H} {p : List MemPlace}
    (ht : P.underlying t = some (.int k)) (hv : Value.okWide P w r b0 t v) (h : DataW.Trod enc P w base spare held t v d p) :
    ∃ a : Int, v = .int k a ∧ (Lit.int k a).wf = true := by
  obtain ⟨x, rfl, rfl, rfl, wx⟩ := open_int ht hv h
  exact ⟨x, rfl, wx⟩

theorem trod_lt' {H : Type} {enc : TypeId × Value → H} {P : Program} {W : World} {t : TypeId} {v : Value} {d : DataW H} {ps : List MemPlace} {sp : Nat → Bool} (h : DataW.Trod enc P W 0 sp true t v d ps) : ∀ x ∈ ps, x.block < W.heap.size := by
  obtain ⟨m, hm⟩ := h; exact DataW.trod_lt m _ _ _ hm

end Go.Proofs.YtfbegeopiakccaaGreatDoor

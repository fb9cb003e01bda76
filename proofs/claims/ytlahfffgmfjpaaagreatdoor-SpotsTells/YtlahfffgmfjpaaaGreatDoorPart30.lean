/-
  Small functions of layer 12's statements: the chapter's dimensions, shapes, how many; the chapter's first examples.
-/
import Derived.Test.YtlahfffgmfjpaaaGreatDoorSpotsAll
import Derived.Test.YtlahfffgmfjpaaaGreatDoorPart8
import Derived.Laws.AppendOwn
import Derived.Laws.AppendOwnNone
import Derived.Test.YtlahfffgmfjpaaaGreatDoorPart27
import Derived.Test.YtlahfffgmfjpaaaGreatDoorPart23
namespace Go.Proofs.YtlahfffgmfjpaaaGreatDoor
open Go Go.RowKit Go.Shelf Go.Maps

attribute [local go_sem] Oper.semAt_some ext_const ixI0 ixI1 ixI2

end Go.Proofs.YtlahfffgmfjpaaaGreatDoor

/-
  What All answers, whatever it is handed; whether a machine is small.
-/
namespace Go.Proofs.YtlahfffgmfjpaaaGreatDoor
open Go Go.RowKit Go.Shelf Go.Maps

attribute [local go_sem] Oper.semAt_some ext_const ixI0 ixI1 ixI2

/-- What All answers. -/
def alE (d0 d1 d2 : Int) (u : Wt) (mw lw : List Nat) : Int := if okDB d0 d1 d2 && okDB u.1 u.2.1 u.2.2.1 then (if mayW (d0 * d1 * d2).toNat mw lw then 0 else 8) else 8
def alL (d0 d1 d2 : Int) (u : Wt) (mw lw : List Nat) : List Pl := if alE d0 d1 d2 u mw lw = 0 then clearT d0 d1 d2 (turnsT u) mw lw else []
theorem mayT_ok {u : Wt} : mayT u ↔ okDB u.1 u.2.1 u.2.2.1 = true := by
  obtain ⟨x, y, z, p, q, r, t⟩ := u
  rw [okDB_iff]
  exact mayT_D
theorem alE_cases (d0 d1 d2 : Int) (u : Wt) (mw lw : List Nat) : (mayD d0 d1 d2 ∧ mayT u ∧ mayW (d0 * d1 * d2).toNat mw lw = true ∧ alE d0 d1 d2 u mw lw = 0) ∨ alE d0 d1 d2 u mw lw = 8 := by
  unfold alE
  cases h1 : okDB d0 d1 d2
  · exact .inr rfl
  · cases h2 : okDB u.1 u.2.1 u.2.2.1
    · exact .inr rfl
    · cases h3 : mayW (d0 * d1 * d2).toNat mw lw
      · exact .inr rfl
      · exact .inl ⟨(okDB_iff _ _ _).1 h1, mayT_ok.2 h2, rfl, rfl⟩
theorem sall_calls {d0 d1 d2 : Int} {u : Wt} {vm vl : Value} {mw lw : List Nat} (w : World) (hO : OrdOk w) (hM : Wds w vm mw) (hL : Wds w vl lw) :
    Calls Tryz.prog 6 #[A3 d0 d1 d2, W7 u, vm, vl] w fun e W' => ∃ v, e = .returned (.tuple #[v, I (alE d0 d1 d2 u mw lw)]) ∧ Lp W' w.heap.size v (alL d0 d1 d2 u mw lw) ∧ Below w.heap.size w W' := by
  by_cases h : mayD d0 d1 d2 ∧ mayT u
  · have h1 := (okDB_iff _ _ _).2 h.1
    have h2 := mayT_ok.1 h.2
    cases h3 : mayW (d0 * d1 * d2).toNat mw lw
    · have e : alE d0 d1 d2 u mw lw = 8 := by simp [alE, h1, h2, h3]
      refine (sall_bad w h.1 h.2 hM hL h3).mono ?_
      rintro x W' ⟨rfl, hB⟩
      exact ⟨_, by rw [e], by rw [alL, if_neg (by rw [e]; decide)]; exact Lp.nil _ _, hB⟩
    · have e : alE d0 d1 d2 u mw lw = 0 := by simp [alE, h1, h2, h3]
      refine (sall_yes w hO h.1 h.2 hM hL h3).mono ?_
      rintro x W' ⟨v, rfl, hv, hB⟩
      exact ⟨v, by rw [e], by rw [alL, if_pos e]; exact hv, hB⟩
  · have e : alE d0 d1 d2 u mw lw = 8 := by
      unfold alE
      rw [if_neg]
      intro hh
      rw [Bool.and_eq_true] at hh
      exact h ⟨(okDB_iff _ _ _).1 hh.1, mayT_ok.2 hh.2⟩
    refine (sall_no w h).mono ?_
    rintro x W' ⟨rfl, hB⟩
    exact ⟨_, by rw [e], by rw [alL, if_neg (by rw [e]; decide)]; exact Lp.nil _ _, hB⟩
theorem al_len {d0 d1 d2 : Int} {u : Wt} {mw lw : List Nat} : (alL d0 d1 d2 u mw lw).length ≤ 24576 := by
  unfold alL
  split
  · rename_i h
    rcases alE_cases d0 d1 d2 u mw lw with ⟨h1, h2, _⟩ | h8
    · have a := clear_le (d0 := d0) (d1 := d1) (d2 := d2) (turnsT u) mw lw
      have b := places_len h1 h2
      rw [← every_len h1 (turns_all h2)] at b
      have c := places_bd h1 h2
      omega
    · rw [h8] at h; exact absurd h (by decide)
  · simp

/-- Whether a machine has at most 64 midplanes, if it may be. -/
def smB (d0 d1 d2 : Int) : Bool := if okDB d0 d1 d2 then decide (d0 * d1 * d2 ≤ 64) else true
theorem smB_no {d0 d1 d2 : Int} (h : ¬ mayD d0 d1 d2) : smB d0 d1 d2 = true := by
  unfold smB
  rw [if_neg (fun e => h ((okDB_iff _ _ _).1 e))]
theorem smB_yes {d0 d1 d2 : Int} (h : mayD d0 d1 d2) : smB d0 d1 d2 = decide (d0 * d1 * d2 ≤ 64) := by
  unfold smB
  rw [if_pos ((okDB_iff _ _ _).2 h)]

set_option maxRecDepth 100000 in
set_option maxHeartbeats 4000000 in
theorem small12_calls (d0 d1 d2 : Int) (w : World) : Calls Tryz.prog 5 #[A3 d0 d1 d2] w fun e W' => e = .returned (.bool (smB d0 d1 d2)) ∧ Below w.heap.size w W' := by
  have hB : Below w.heap.size w (w.alloc (.cells #[I d0, I d1, I d2] 23)) := (Below.refl _ w).alloc (Nat.le_refl _) _
  by_cases h0 : d0 < 1
  · have e := smB_no (d0 := d0) (d1 := d1) (d2 := d2) (fun h => by have := h.1.1; omega)
    go_enter Tryz.func5, Tryz.ntmps5
    go_wp2
    refine wp_loop_rounds 1 ?_
    rw [rounds_succ]
    go_wp2
    go_ret
    exact ⟨by rw [e]; rfl, hB⟩
  · have g0 : decide (d0 < 1) = false := by simpa using h0
    by_cases h0' : 16 < d0
    · have e := smB_no (d0 := d0) (d1 := d1) (d2 := d2) (fun h => by have := h.1.2; omega)
      go_enter Tryz.func5, Tryz.ntmps5
      go_wp2
      refine wp_loop_rounds 1 ?_
      rw [rounds_succ]
      go_wp2
      go_ret
      exact ⟨by rw [e]; rfl, hB⟩
    · have g0' : decide (16 < d0) = false := by simpa using h0'
      by_cases h1 : d1 < 1
      · have e := smB_no (d0 := d0) (d1 := d1) (d2 := d2) (fun h => by have := h.2.1.1; omega)
        go_enter Tryz.func5, Tryz.ntmps5
        go_wp2
        refine wp_loop_rounds 2 ?_
        rw [rounds_succ]
        go_wp2
        rw [rounds_succ]
        go_wp2
        go_ret
        exact ⟨by rw [e]; rfl, hB⟩
      · have g1 : decide (d1 < 1) = false := by simpa using h1
        by_cases h1' : 16 < d1
        · have e := smB_no (d0 := d0) (d1 := d1) (d2 := d2) (fun h => by have := h.2.1.2; omega)
          go_enter Tryz.func5, Tryz.ntmps5
          go_wp2
          refine wp_loop_rounds 2 ?_
          rw [rounds_succ]
          go_wp2
          rw [rounds_succ]
          go_wp2
          go_ret
          exact ⟨by rw [e]; rfl, hB⟩
        · have g1' : decide (16 < d1) = false := by simpa using h1'
          by_cases h2 : d2 < 1
          · have e := smB_no (d0 := d0) (d1 := d1) (d2 := d2) (fun h => by have := h.2.2.1; omega)
            go_enter Tryz.func5, Tryz.ntmps5
            go_wp2
            refine wp_loop_rounds 3 ?_
            rw [rounds_succ]
            go_wp2
            rw [rounds_succ]
            go_wp2
            rw [rounds_succ]
            go_wp2
            go_ret
            exact ⟨by rw [e]; rfl, hB⟩
          · have g2 : decide (d2 < 1) = false := by simpa using h2
            by_cases h2' : 16 < d2
            · have e := smB_no (d0 := d0) (d1 := d1) (d2 := d2) (fun h => by have := h.2.2.2; omega)
              go_enter Tryz.func5, Tryz.ntmps5
              go_wp2
              refine wp_loop_rounds 3 ?_
              rw [rounds_succ]
              go_wp2
              rw [rounds_succ]
              go_wp2
              rw [rounds_succ]
              go_wp2
              go_ret
              exact ⟨by rw [e]; rfl, hB⟩
            · have g2' : decide (16 < d2) = false := by simpa using h2'
              have hm : mayD d0 d1 d2 := ⟨⟨by omega, by omega⟩, ⟨by omega, by omega⟩, by omega, by omega⟩
              have e := smB_yes hm
              have HE : Hid (smB d0 d1 d2 = decide (d0 * d1 * d2 ≤ 64)) := e
              have b1 : 1 ≤ d0 * d1 ∧ d0 * d1 ≤ 256 := by
                have q1 := Int.mul_le_mul (show d0 ≤ 16 by omega) (show d1 ≤ 16 by omega) (by omega) (by omega)
                have q2 := Int.mul_le_mul (show 1 ≤ d0 by omega) (show 1 ≤ d1 by omega) (by omega) (by omega)
                omega
              have b2 := N_bd hm
              clear e hm
              go_enter Tryz.func5, Tryz.ntmps5
              go_wp2
              refine wp_loop_rounds 4 ?_
              rw [rounds_succ]
              go_wp2
              rw [rounds_succ]
              go_wp2
              rw [rounds_succ]
              go_wp2
              rw [rounds_succ]
              go_wp2
              go_ret
              exact ⟨by rw [HE.out]; rfl, hB⟩

end Go.Proofs.YtlahfffgmfjpaaaGreatDoor

/-
  What SpotsHas asks of the list of places, without a program.
-/
namespace Go.Proofs.YtlahfffgmfjpaaaGreatDoor
open Go Go.RowKit Go.Shelf Go.Maps

def cntP (L : List Pl) (x : Pl) (k : Nat) : Nat := (L.take k).countP (fun y => eqP y x)
end Go.Proofs.YtlahfffgmfjpaaaGreatDoor

/-
  A set among the arguments: as it came in, and a copy of it.
-/
namespace Go.Proofs.YtlahfffgmfjpaaaGreatDoor
open Go Go.RowKit Go.Shelf

/-- A row of words that came in. -/
def ArgW (W : World) (v : Value) (ws : List Nat) : Prop := Wds W v ws ∧ (v = .slice none 0 0 ∨ ∃ ad cap, v = .slice (some ad) ws.length cap)
def ArgI (W : World) (v : Value) (xs : List Int) : Prop := Its W v xs ∧ (v = .slice none 0 0 ∨ ∃ ad cap, v = .slice (some ad) xs.length cap)

end Go.Proofs.YtlahfffgmfjpaaaGreatDoor

/-
  tidehallref12.Same; a list of bools of a call's own; what SpotsTurns asks of the lists of places.
-/
namespace Go.Proofs.YtlahfffgmfjpaaaGreatDoor
open Go Go.RowKit Go.Shelf Go.Maps

attribute [local go_sem] Oper.semAt_some ext_const ixI0 ixI1 ixI2
attribute [local go_sem high] eq_place

/-- Two lists are the same. -/
def sameP (xs ys : List Pl) : Bool := decide (xs.length = ys.length) && (List.range xs.length).all fun k => eqP (xs.getD k zP) (ys.getD k zP)
theorem sameP_iff {xs ys : List Pl} : sameP xs ys = true ↔ xs = ys := by
  unfold sameP
  rw [Bool.and_eq_true, decide_eq_true_eq, List.all_eq_true]
  constructor
  · rintro ⟨hl, h⟩
    refine List.ext_getElem hl fun k h1 h2 => ?_
    have := eqP_iff.1 (h k (List.mem_range.2 h1))
    simpa [h1, h2] using this
  · rintro rfl
    exact ⟨rfl, fun k _ => eqP_self _⟩
theorem sameP_self (xs : List Pl) : sameP xs xs = true := sameP_iff.2 rfl

set_option maxRecDepth 100000 in
set_option maxHeartbeats 4000000 in
theorem sameP_calls {b1 b2 : Nat} {u v : Value} {xs ys : List Pl} (w : World) (hX : Lp w b1 u xs) (hY : Lp w b2 v ys) (hl : xs.length ≤ 1000000) :
    Calls Tryz.prog 12 #[u, v] w fun e W' => e = .returned (.bool (sameP xs ys)) ∧ Below w.heap.size w W' := by
  have mixed : Tryz.prog.follows .mixedOrders = true := by kernel_rfl
  obtain ⟨ao, cap, rfl, hX⟩ := hX.form
  obtain ⟨bo, cap2, rfl, hY⟩ := hY.form
  by_cases hne : xs.length = ys.length
  · have HR1 : Hid ((∀ k, k < xs.length → eqP (xs.getD k zP) (ys.getD k zP) = true) → sameP xs ys = true) := fun h => by
      unfold sameP
      rw [decide_eq_true hne, Bool.true_and, List.all_eq_true]
      exact fun k hk => h k (List.mem_range.1 hk)
    have HR0 : Hid (∀ k, k < xs.length → eqP (xs.getD k zP) (ys.getD k zP) = false → sameP xs ys = false) := fun k hk h => by
      unfold sameP
      rw [decide_eq_true hne, Bool.true_and, List.all_eq_false]
      exact ⟨k, List.mem_range.2 hk, by rw [h]; decide⟩
    have HY2 : Hid (Lp w b2 (.slice bo ys.length cap2) ys) := hY
    have HX2 : Hid (Lp w b1 (.slice ao xs.length cap) xs) := hX
    have HNe : Hid (ys.length = xs.length) := hne.symm
    clear hX hY
    rw [← hne]
    clear hne
    generalize sameP xs ys = ans at *
    go_enter Tryz.func12, Tryz.ntmps12
    go_wp2
    go_loopw [5] (fun i wr => ∃ (k : Nat), k ≤ xs.length ∧ i = .int .i64 k ∧ Hid (∀ j, j < k → eqP (xs.getD j zP) (ys.getD j zP) = true) ∧ Hid (Below w.heap.size w wr)) (fun i _ => xs.length - (RowKit.intOf i).toNat)
    case atStart => exact ⟨0, by omega, rfl, fun j h => absurd h (Nat.not_lt_zero j), Below.refl _ _⟩
    case round =>
      obtain ⟨k, hk, rfl, HK, HB⟩ := hrel
      by_cases hlt : (k : Int) < (xs.length : Int)
      · have hk2 : k < xs.length := by omega
        obtain ⟨g1, bx, p1, q1, r1, rfl, e1, hat1⟩ := (HX2.out.later HB.out).at hk2
        obtain ⟨g2, cx, p2, q2, r2, rfl, e2, hat2⟩ := (HY2.out.later HB.out).at (k := k) (by rw [HNe.out]; exact hk2)
        obtain ⟨s, hs⟩ : ∃ s, eqP (xs.getD k zP) (ys.getD k zP) = s := ⟨_, rfl⟩
        have HS0 : Hid (s = false → ans = false) := fun h => HR0.out k hk2 (hs.trans h)
        have HS1 : Hid (s = true → ∀ j, j < k + 1 → eqP (xs.getD j zP) (ys.getD j zP) = true) := fun h j hj => by
          by_cases e : j = k
          · rw [e]; exact hs.trans h
          · exact HK.out j (by omega)
        rw [e1, e2] at hs
        clear e1 e2
        obtain ⟨x0, x1, x2, x3, x4, x5, x6, x7, x8⟩ := hat1.ext
        obtain ⟨y0, y1, y2, y3, y4, y5, y6, y7, y8⟩ := hat2.ext
        clear hat1 hat2 HK
        go_wp2_with fail
        refine wp_region_look mixed (by kernel_rfl) ?_
        repeat (go_big_quiet_step (fail))
        refine wpQuiet_nil ?_
        intro X
        have HB2 : Hid (Below w.heap.size w X.wd) := HB.out.trans (X.le.mono HB.out.size)
        clear x0 x1 x2 x3 x4 x5 x6 x7 x8 y0 y1 y2 y3 y4 y5 y6 y7 y8 HB
        generalize X.wd = w3 at *
        clear X
        try rw [hs]
        cases s
        · have HA : Hid (ans = false) := HS0.out rfl
          clear HS0 HS1 hs
          go_wp2
          go_ret
          exact ⟨by rw [HA.out]; rfl, HB2.out⟩
        · have HS2 := HS1.out rfl
          have HS2 : Hid (∀ j, j < k + 1 → eqP (xs.getD j zP) (ys.getD j zP) = true) := HS2
          clear HS0 HS1 hs
          go_wp2
          exact ⟨⟨k + 1, by omega, by go_num, HS2.out, HB2.out⟩, by simp [RowKit.intOf]; omega⟩
      · obtain rfl : k = xs.length := by omega
        have HA : Hid (ans = true) := HR1.out HK.out
        clear HK
        go_wp2
        go_ret
        exact ⟨by rw [HA.out]; rfl, HB.out⟩
  · have hA : sameP xs ys = false := by
      unfold sameP
      rw [decide_eq_false hne, Bool.false_and]
    have hn1 : decide ((xs.length : Int) = (ys.length : Int)) = false := by
      rw [decide_eq_false_iff_not]; omega
    have hn2 : ((xs.length : Int) != (ys.length : Int)) = true := by
      simp only [bne_iff_ne, ne_eq]; omega
    rw [hA]
    clear hX hY hA hne
    go_enter Tryz.func12, Tryz.ntmps12
    go_wp2
    go_ret
    exact ⟨rfl, Below.refl _ _⟩


theorem Wl.set {W : World} {base : Nat} {v : Value} {xs : List Wt} (h : Wl W base v xs) {B : Nat} {t : TypeId} {vs : Array Value} (hB : Blk W B t vs) (ht : t ≠ 26) (i : Nat) (u : Value) : Wl (W.setCell ⟨B, i, none⟩ u) base v xs := by
  obtain ⟨h1, h2⟩ := h
  refine ⟨h1, ?_⟩
  rcases h2 with h2 | ⟨g', cap', cur, e, hgb, hh, r⟩
  · exact .inl h2
  · refine .inr ⟨g', cap', cur, e, hgb, (Below.heap_setCell W ⟨B, i, none⟩ u g' (fun e => ?_)).trans hh, r⟩
    have e : g' = B := e
    subst e
    rw [show W.heap[g']? = _ from hB] at hh
    cases hh
    exact ht rfl

/-- What the statement asks, without a program. -/
structure TurnsOk (d0 d1 d2 : Int) (u : Wt) (mw lw : List Nat) : Prop where
  one : ∀ x ∈ turnsT u, alE d0 d1 d2 x mw lw = 0 ∧ alL d0 d1 d2 x mw lw = alL d0 d1 d2 u mw lw ∧ alE d0 d1 d2 (offT x) mw lw = 0
  sub : ∀ x ∈ turnsT u, ∀ p ∈ alL d0 d1 d2 (offT x) mw lw, p ∈ alL d0 d1 d2 u mw lw
  sup : ∀ p ∈ alL d0 d1 d2 u mw lw, ∃ x ∈ turnsT u, p ∈ alL d0 d1 d2 (offT x) mw lw
end Go.Proofs.YtlahfffgmfjpaaaGreatDoor

/-
  The document's less: which of two comes first.
-/
namespace Go.Proofs.YtlahfffgmfjpaaaGreatDoor
open Go Go.RowKit Go.Shelf Go.Sort

attribute [local go_sem] Oper.semAt_some ext_const eq_ints_at eq_bools_at eq_wants ix0 ix1 ix2

theorem below_drewN (w : World) (n : Nat) {B : Nat} {a : World} (h : Below B a w) : Below B a (w.drewN n) := ⟨h.os, h.tape, h.output, h.size, h.block⟩

set_option maxRecDepth 100000 in
set_option maxHeartbeats 4000000 in
theorem wless_calls (x y z : Int) (p q r t : Bool) (x' y' z' : Int) (p' q' r' t' : Bool) (w : World) :
    Calls Tryz.prog 82 #[V7 x y z p q r t, V7 x' y' z' p' q' r' t'] w fun e W' => e = .returned (.bool (lessT (x, y, z, p, q, r, t) (x', y', z', p', q', r', t'))) ∧ Below w.heap.size w W' := by
  obtain ⟨W, hW, hBW, b0, b1⟩ := two_start w (cells7 x y z p q r t) (cells7 x' y' z' p' q' r' t') 26 26
  have HG : Hid (∀ n, Below w.heap.size w (W.drewN n)) := fun n => below_drewN W n hBW
  obtain ⟨s0, s1, s2, s3, s4, s5, _⟩ := b0.seven
  obtain ⟨d0, d1, d2, d3, d4, d5, _⟩ := b1.seven
  clear b0 b1 hBW
  have hf := flag_calls
  have HA : Hid (lessT (x, y, z, p, q, r, t) (x', y', z', p', q', r', t') = if x ≠ x' then decide (x < x') else if y ≠ y' then decide (y < y') else if z ≠ z' then decide (z < z') else if p ≠ p' then decide (bit p < bit p') else if q ≠ q' then decide (bit q < bit q') else if r ≠ r' then decide (bit r < bit r') else false) := rfl
  generalize lessT (x, y, z, p, q, r, t) (x', y', z', p', q', r', t') = ans at HA ⊢
  have HW : Hid ((w.alloc (.cells (cells7 x y z p q r t) 26)).alloc (.cells (cells7 x' y' z' p' q' r' t') 26) = W) := hW
  clear hW
  go_enter Tryz.func82, Tryz.ntmps82
  go_wp2
  rw [HW.out]
  go_loopw [5] (fun i wr => ∃ n, wr = W.drewN n ∧ (i = .int .i64 0 ∨ (i = .int .i64 1 ∧ Hid (x = x')) ∨ (i = .int .i64 2 ∧ Hid (x = x' ∧ y = y')) ∨ (i = .int .i64 3 ∧ Hid (x = x' ∧ y = y' ∧ z = z')))) (fun i _ => 3 - (RowKit.intOf i).toNat)
  case atStart => exact ⟨0, rfl, .inl rfl⟩
  case round =>
    obtain ⟨n, rfl, hrel⟩ := hrel
    rcases hrel with rfl | ⟨rfl, H0⟩ | ⟨rfl, H0⟩ | ⟨rfl, H0⟩
    · have HQ : Hid (x ≠ x' → ans = decide (x < x')) := fun hq => by rw [HA.out]; simp [hq]
      by_cases hq : x = x'
      · have HN : Hid (x = x') := hq
        have hq' : (x != x') = false := by simpa using hq
        clear hq HQ
        go_wp2
        go_quiet (fail)
        go_wp2
        go_roundw
        case rel => exact ⟨_, rfl, .inr (.inl ⟨rfl, HN⟩)⟩
        case measure => simp [RowKit.intOf]
      · have hans := HQ.out hq
        have HQ' : Hid (decide (x < x') = ans) := hans.symm
        have hq' : (x != x') = true := by simpa using hq
        clear HQ hans hq
        go_wp2
        go_quiet (fail)
        go_wp2
        go_quiet (fail)
        go_wp2
        go_ret
        exact ⟨by first | rfl | (rw [← HQ'.out]; rfl) | (rw [← HQ'.out]; simp), by first | exact HG.out _ | (simp only [World.drewN_drewN]; exact HG.out _)⟩
    · have HQ : Hid (y ≠ y' → ans = decide (y < y')) := fun hq => by rw [HA.out]; simp [H0.out, hq]
      by_cases hq : y = y'
      · have HN : Hid (x = x' ∧ y = y') := ⟨H0.out, hq⟩
        have hq' : (y != y') = false := by simpa using hq
        clear hq HQ
        go_wp2
        go_quiet (fail)
        go_wp2
        go_roundw
        case rel => exact ⟨_, rfl, .inr (.inr (.inl ⟨rfl, HN⟩))⟩
        case measure => simp [RowKit.intOf]
      · have hans := HQ.out hq
        have HQ' : Hid (decide (y < y') = ans) := hans.symm
        have hq' : (y != y') = true := by simpa using hq
        clear HQ hans hq
        go_wp2
        go_quiet (fail)
        go_wp2
        go_quiet (fail)
        go_wp2
        go_ret
        exact ⟨by first | rfl | (rw [← HQ'.out]; rfl) | (rw [← HQ'.out]; simp), by first | exact HG.out _ | (simp only [World.drewN_drewN]; exact HG.out _)⟩
    · have HQ : Hid (z ≠ z' → ans = decide (z < z')) := fun hq => by rw [HA.out]; simp [H0.out.1, H0.out.2, hq]
      by_cases hq : z = z'
      · have HN : Hid (x = x' ∧ y = y' ∧ z = z') := ⟨H0.out.1, H0.out.2, hq⟩
        have hq' : (z != z') = false := by simpa using hq
        clear hq HQ
        go_wp2
        go_quiet (fail)
        go_wp2
        go_roundw
        case rel => exact ⟨_, rfl, .inr (.inr (.inr ⟨rfl, HN⟩))⟩
        case measure => simp [RowKit.intOf]
      · have hans := HQ.out hq
        have HQ' : Hid (decide (z < z') = ans) := hans.symm
        have hq' : (z != z') = true := by simpa using hq
        clear HQ hans hq
        go_wp2
        go_quiet (fail)
        go_wp2
        go_quiet (fail)
        go_wp2
        go_ret
        exact ⟨by first | rfl | (rw [← HQ'.out]; rfl) | (rw [← HQ'.out]; simp), by first | exact HG.out _ | (simp only [World.drewN_drewN]; exact HG.out _)⟩
    · go_wp2
      go_loopw [6] (fun i wr => ∃ n, wr = W.drewN n ∧ (i = .int .i64 0 ∨ (i = .int .i64 1 ∧ Hid (p = p')) ∨ (i = .int .i64 2 ∧ Hid (p = p' ∧ q = q')) ∨ (i = .int .i64 3 ∧ Hid (p = p' ∧ q = q' ∧ r = r')))) (fun i _ => 3 - (RowKit.intOf i).toNat)
      case atStart => exact ⟨n, rfl, .inl rfl⟩
      case round =>
        obtain ⟨n, rfl, hrel⟩ := hrel
        obtain ⟨E0, E1, E2⟩ := H0.out
        rcases hrel with rfl | ⟨rfl, H1⟩ | ⟨rfl, H1⟩ | ⟨rfl, H1⟩
        · have HQ : Hid (p ≠ p' → ans = decide (bit p < bit p')) := fun hq => by rw [HA.out]; simp [E0, E1, E2, hq]
          have f1 := fun w => hf p w
          have f2 := fun w => hf p' w
          clear E0 E1 E2 hf
          by_cases hq : p = p'
          · have HN : Hid (p = p') := hq
            have hq' : (p == p') = true := by simpa using hq
            clear hq HQ f1 f2
            go_wp2
            go_quiet (fail)
            go_wp2
            go_roundw
            case rel => exact ⟨_, rfl, .inr (.inl ⟨rfl, HN⟩)⟩
            case measure => simp [RowKit.intOf]
          · have HQ' : Hid (decide (bit p < bit p') = ans) := (HQ.out hq).symm
            have hq' : (p == p') = false := by simpa using hq
            clear HQ hq
            generalize bit p = c at *
            generalize bit p' = c' at *
            go_wp2
            go_quiet (fail)
            go_wp2
            go_quiet ((go_at_call 109; first | exact quiet_n (f1 _) | exact quiet_n (f2 _)))
            go_wp2
            go_ret
            exact ⟨by first | rfl | (rw [← HQ'.out]; rfl) | (rw [← HQ'.out]; simp), by first | exact HG.out _ | (simp only [World.drewN_drewN]; exact HG.out _)⟩
        · have HQ : Hid (q ≠ q' → ans = decide (bit q < bit q')) := fun hq => by rw [HA.out]; simp [E0, E1, E2, H1.out, hq]
          have f1 := fun w => hf q w
          have f2 := fun w => hf q' w
          clear E0 E1 E2 hf
          by_cases hq : q = q'
          · have HN : Hid (p = p' ∧ q = q') := ⟨H1.out, hq⟩
            have hq' : (q == q') = true := by simpa using hq
            clear hq HQ f1 f2
            go_wp2
            go_quiet (fail)
            go_wp2
            go_roundw
            case rel => exact ⟨_, rfl, .inr (.inr (.inl ⟨rfl, HN⟩))⟩
            case measure => simp [RowKit.intOf]
          · have HQ' : Hid (decide (bit q < bit q') = ans) := (HQ.out hq).symm
            have hq' : (q == q') = false := by simpa using hq
            clear HQ hq
            generalize bit q = c at *
            generalize bit q' = c' at *
            go_wp2
            go_quiet (fail)
            go_wp2
            go_quiet ((go_at_call 109; first | exact quiet_n (f1 _) | exact quiet_n (f2 _)))
            go_wp2
            go_ret
            exact ⟨by first | rfl | (rw [← HQ'.out]; rfl) | (rw [← HQ'.out]; simp), by first | exact HG.out _ | (simp only [World.drewN_drewN]; exact HG.out _)⟩
        · have HQ : Hid (r ≠ r' → ans = decide (bit r < bit r')) := fun hq => by rw [HA.out]; simp [E0, E1, E2, H1.out.1, H1.out.2, hq]
          have f1 := fun w => hf r w
          have f2 := fun w => hf r' w
          clear E0 E1 E2 hf
          by_cases hq : r = r'
          · have HN : Hid (p = p' ∧ q = q' ∧ r = r') := ⟨H1.out.1, H1.out.2, hq⟩
            have hq' : (r == r') = true := by simpa using hq
            clear hq HQ f1 f2
            go_wp2
            go_quiet (fail)
            go_wp2
            go_roundw
            case rel => exact ⟨_, rfl, .inr (.inr (.inr ⟨rfl, HN⟩))⟩
            case measure => simp [RowKit.intOf]
          · have HQ' : Hid (decide (bit r < bit r') = ans) := (HQ.out hq).symm
            have hq' : (r == r') = false := by simpa using hq
            clear HQ hq
            generalize bit r = c at *
            generalize bit r' = c' at *
            go_wp2
            go_quiet (fail)
            go_wp2
            go_quiet ((go_at_call 109; first | exact quiet_n (f1 _) | exact quiet_n (f2 _)))
            go_wp2
            go_ret
            exact ⟨by first | rfl | (rw [← HQ'.out]; rfl) | (rw [← HQ'.out]; simp), by first | exact HG.out _ | (simp only [World.drewN_drewN]; exact HG.out _)⟩
        · obtain rfl : ans = false := by
            obtain ⟨F0, F1, F2⟩ := H1.out
            rw [HA.out]; simp [E0, E1, E2, F0, F1, F2]
          clear E0 E1 E2
          go_wp2
          go_ret
          exact ⟨rfl, HG.out _⟩

end Go.Proofs.YtlahfffgmfjpaaaGreatDoor

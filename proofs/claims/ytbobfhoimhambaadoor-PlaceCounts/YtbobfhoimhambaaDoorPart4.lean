/-
  pos.Many, pos.checkNode: what each call answers, for every input; nothing that lay before is turned.
-/
import Derived.Test.YtbobfhoimhambaaDoorPart3
import Derived.Test.YtbobfhoimhambaaDoorPart2
namespace Go.Proofs.YtbobfhoimhambaaDoor
open Go.RowKit Go.Shelf

attribute [local go_sem] Oper.semAt_some ext_const

set_option maxHeartbeats 400000 in
theorem many_no {d0 d1 d2 : Int} (w : World) (hm : ¬ mayD d0 d1 d2) :
    Calls Tryd.prog 15 #[A3 d0 d1 d2] w fun e W' => e = .returned (.tuple #[I 0, I 8]) ∧ Below w.heap.size w W' := by
  go_enter Tryd.func15, Tryd.ntmps15
  go_wp2_with fail
  refine (check_no _ hm).mono ?_
  rintro e w1 ⟨rfl, hB⟩
  go_wp2
  go_ret2
  exact ⟨rfl, ((Below.refl _ w).alloc (Nat.le_refl _) _).trans (hB.mono (by simp))⟩

set_option maxHeartbeats 400000 in
theorem many_yes {d0 d1 d2 : Int} (w : World) (hm : mayD d0 d1 d2) :
    Calls Tryd.prog 15 #[A3 d0 d1 d2] w fun e W' => e = .returned (.tuple #[I (d0 * d1 * d2), I 0]) ∧ Below w.heap.size w W' := by
  go_enter Tryd.func15, Tryd.ntmps15
  go_wp2_with fail
  refine (check_yes _ hm).mono ?_
  rintro e w1 ⟨rfl, hB⟩
  have b0 := (Blk.new w 27 #[I d0, I d1, I d2]).later hB
  have c0 := b0.cell 0
  have c1 := b0.cell 1
  have c2 := b0.cell 2
  simp at c0 c1 c2
  go_wp2_with fail
  refine (many_calls _ hm).mono ?_
  rintro e w2 ⟨rfl, hB2⟩
  go_wp2
  go_ret2
  exact ⟨rfl, (((Below.refl _ w).alloc (Nat.le_refl _) _).trans (hB.mono (by simp))).trans (hB2.mono (by have := hB.size; simp at this; omega))⟩

set_option maxHeartbeats 400000 in
theorem node_bad {d0 d1 d2 : Int} (m : Int) (w : World) (hm : ¬ mayD d0 d1 d2) :
    Calls Tryd.prog 59 #[A3 d0 d1 d2, I m] w fun e W' => e = .returned (I 8) ∧ Below w.heap.size w W' := by
  go_enter Tryd.func59, Tryd.ntmps59
  go_wp2_with fail
  refine (many_no _ hm).mono ?_
  rintro e w1 ⟨rfl, hB⟩
  go_wp2
  go_ret
  exact ⟨rfl, ((Below.refl _ w).alloc (Nat.le_refl _) _).trans (hB.mono (by simp))⟩

set_option maxHeartbeats 400000 in
theorem node_no {d0 d1 d2 : Int} (m : Int) (w : World) (hm : mayD d0 d1 d2) (hn : belowB m (d0 * d1 * d2) = false) :
    Calls Tryd.prog 59 #[A3 d0 d1 d2, I m] w fun e W' => e = .returned (I 2) ∧ Below w.heap.size w W' := by
  go_enter Tryd.func59, Tryd.ntmps59
  go_wp2_with fail
  refine (many_yes _ hm).mono ?_
  rintro e w1 ⟨rfl, hB⟩
  go_wp2_with fail
  refine (below_calls _ _ _).mono ?_
  rintro e w2 ⟨rfl, rfl⟩
  go_wp2
  go_ret
  exact ⟨rfl, ((Below.refl _ w).alloc (Nat.le_refl _) _).trans (hB.mono (by simp))⟩

set_option maxHeartbeats 400000 in
theorem node_yes {d0 d1 d2 : Int} (m : Int) (w : World) (hm : mayD d0 d1 d2) (hn : belowB m (d0 * d1 * d2) = true) :
    Calls Tryd.prog 59 #[A3 d0 d1 d2, I m] w fun e W' => e = .returned (I 0) ∧ Below w.heap.size w W' := by
  go_enter Tryd.func59, Tryd.ntmps59
  go_wp2_with fail
  refine (many_yes _ hm).mono ?_
  rintro e w1 ⟨rfl, hB⟩
  go_wp2_with fail
  refine (below_calls _ _ _).mono ?_
  rintro e w2 ⟨rfl, rfl⟩
  go_wp2
  go_ret
  exact ⟨rfl, ((Below.refl _ w).alloc (Nat.le_refl _) _).trans (hB.mono (by simp))⟩

end Go.Proofs.YtbobfhoimhambaaDoor

/-
  box's sides: sideOf, mayBe, after, has, meets, within: what each call answers; nothing that lay before is turned.
-/
namespace Go.Proofs.YtbobfhoimhambaaDoor
open Go.RowKit Go.Shelf

attribute [local go_sem] Oper.semAt_some ext_const

/-- What a later world has in a box's block. -/
theorem Blk.six {W W' : World} {B : Nat} {t : TypeId} {a b c d e f : Int} (h : Blk W B t #[I a, I b, I c, I d, I e, I f]) (hb : Below W.heap.size W W') :
    (W'.cell? ⟨B, 0, none⟩ = some (I a) ∧ W'.cell? ⟨B, 1, none⟩ = some (I b) ∧ W'.cell? ⟨B, 2, none⟩ = some (I c)) ∧ (W'.cell? ⟨B, 3, none⟩ = some (I d) ∧ W'.cell? ⟨B, 4, none⟩ = some (I e) ∧ W'.cell? ⟨B, 5, none⟩ = some (I f)) ∧ B < W'.heap.size :=
  ⟨⟨(h.later hb).cell 0, (h.later hb).cell 1, (h.later hb).cell 2⟩, ⟨(h.later hb).cell 3, (h.later hb).cell 4, (h.later hb).cell 5⟩, (h.later hb).lt⟩

theorem after_calls {r b k : Int} (s : Int) (w : World) (hr : r ≤ 16) (hb : 0 ≤ b ∧ b < r) (hk : 0 ≤ k ∧ k < r) :
    Calls Tryd.prog 60 #[A3 r b s, I k] w fun e W' => e = .returned (I (aft r b k)) ∧ Below w.heap.size w W' := by
  have HR : Hid ((k - b + r) % r = aft r b k) := aft_rem hb hk
  obtain ⟨b0, b1⟩ := hb
  obtain ⟨k0, k1⟩ := hk
  go_enter Tryd.func60, Tryd.ntmps60
  go_wp2
  go_ret
  rw [HR.out]
  exact ⟨rfl, (Below.refl _ w).alloc (Nat.le_refl _) _⟩

theorem has_calls {r b k : Int} (s : Int) (w : World) (hr : r ≤ 16) (hb : 0 ≤ b ∧ b < r) (hk : 0 ≤ k ∧ k < r) :
    Calls Tryd.prog 45 #[A3 r b s, I k] w fun e W' => e = .returned (.bool (hasS r b s k)) ∧ Below w.heap.size w W' := by
  have hmx : Tryd.prog.follows .mixedOrders = true := by kernel_rfl
  go_enter Tryd.func45, Tryd.ntmps45
  go_wp2
  have b0 := Blk.new w 66 #[I r, I b, I s]
  have x0 := Ext.cell b0 0
  have x1 := Ext.cell b0 1
  have x2 := Ext.cell b0 2
  simp at x0 x1 x2
  have hT : Below w.heap.size w (w.alloc (.cells #[I r, I b, I s] 66)) := (Below.refl _ w).alloc (Nat.le_refl _) _
  refine wp_region_look hmx (by kernel_rfl) ?_
  repeat (go_big_quiet_step ((go_at_call 60; exact calls_ext (after_calls s _ hr hb hk))))
  refine wpQuiet_nil ?_
  intro v
  go_wp2
  go_ret
  exact ⟨rfl, then_below hT v.le⟩

theorem maybe_calls (r b s : Int) (w : World) :
    Calls Tryd.prog 53 #[A3 r b s] w fun e W' => e = .returned (.bool (maySB r b s)) ∧ Below w.heap.size w W' := by
  go_enter Tryd.func53, Tryd.ntmps53
  go_wp2
  all_goals
    go_ret
    refine ⟨?_, (Below.refl _ w).alloc (Nat.le_refl _) _⟩
    simp [maySB, *]
    try omega

theorem three_start (w : World) (u0 u1 u2 : Array Value) (t0 t1 t2 : TypeId) :
    ∃ W : World, ((w.alloc (.cells u0 t0)).alloc (.cells u1 t1)).alloc (.cells u2 t2) = W ∧ W.heap.size = w.heap.size + 3 ∧ Below w.heap.size w W ∧ Blk W w.heap.size t0 u0 ∧ Blk W (w.heap.size + 1) t1 u1 ∧ Blk W (w.heap.size + 1 + 1) t2 u2 := by
  obtain ⟨W, hW, hB, b0, b1⟩ := two_start w u0 u1 t0 t1
  refine ⟨_, rfl, by simp, ?_, ?_, ?_, ?_⟩
  · rw [hW]; exact then_alloc hB _
  · rw [hW]; exact b0.alloc _
  · rw [hW]; exact b1.alloc _
  · have := Blk.new ((w.alloc (.cells u0 t0)).alloc (.cells u1 t1)) t2 u2; simpa using this

set_option maxHeartbeats 1000000 in
theorem side_calls (d0 d1 d2 : Int) (b : Bx) (k : Fin 3) (w : World) :
    Calls Tryd.prog 33 #[A3 d0 d1 d2, B6 b, I (axI k)] w fun e W' => e = .returned (A3 (dimAt d0 d1 d2 k) (bAt b k) (sAt b k)) ∧ Below w.heap.size w W' := by
  have hmx : Tryd.prog.follows .mixedOrders = true := by kernel_rfl
  rcases fin3 k with rfl | rfl | rfl
  all_goals
    simp only [axI, bAt, sAt, dimAt]
    go_enter Tryd.func33, Tryd.ntmps33
    go_wp2
    obtain ⟨W, hW, hs, hB0, b0, b1, b2⟩ := three_start w #[I d0, I d1, I d2] #[I b.x, I b.y, I b.z, I b.a, I b.b, I b.c] #[I 0, I 0, I 0] 27 30 66
    rw [hW]
    clear hW
    have x0 := Ext.cell b0 0
    have x1 := Ext.cell b0 1
    have x2 := Ext.cell b0 2
    have y0 := Ext.cell b1 0
    have y1 := Ext.cell b1 1
    have y2 := Ext.cell b1 2
    have y3 := Ext.cell b1 3
    have y4 := Ext.cell b1 4
    have y5 := Ext.cell b1 5
    simp at x0 x1 x2 y0 y1 y2 y3 y4 y5
    refine wp_region_tail 12 hmx (by kernel_rfl) ?_
    simp only [List.take_succ_cons, List.take_zero, List.drop_succ_cons, List.drop_zero]
    repeat (go_big_quiet_step (fail))
    refine wpQuiet_nil ?_
    intro v
    have q2 := b2.later v.le
    obtain ⟨c0, c1, c2, f0, f1, f2⟩ := q2.row
    gi_wp2
  · have hBX := below_set3 (below_ext hB0 v) (show w.heap.size ≤ w.heap.size + 1 + 1 by omega) (I d0) (I b.x) (I b.a)
    obtain ⟨j0, j1, j2, _, _, _⟩ := (q2.set3 (I d0) (I b.x) (I b.a)).row
    go_wp2
    exact bodyPost_ret (v := A3 d0 b.x b.a) (by simp [results, Tryd.f33, go_sem, j0, j1, j2]) rfl ⟨rfl, hBX⟩
  · have hBX := below_set3 (below_ext hB0 v) (show w.heap.size ≤ w.heap.size + 1 + 1 by omega) (I d1) (I b.y) (I b.b)
    obtain ⟨j0, j1, j2, _, _, _⟩ := (q2.set3 (I d1) (I b.y) (I b.b)).row
    go_wp2
    exact bodyPost_ret (v := A3 d1 b.y b.b) (by simp [results, Tryd.f33, go_sem, j0, j1, j2]) rfl ⟨rfl, hBX⟩
  · have hBX := below_set3 (below_ext hB0 v) (show w.heap.size ≤ w.heap.size + 1 + 1 by omega) (I d2) (I b.z) (I b.c)
    obtain ⟨j0, j1, j2, _, _, _⟩ := (q2.set3 (I d2) (I b.z) (I b.c)).row
    go_wp2
    exact bodyPost_ret (v := A3 d2 b.z b.c) (by simp [results, Tryd.f33, go_sem, j0, j1, j2]) rfl ⟨rfl, hBX⟩

theorem side_any (d0 d1 d2 x y z a b c : Int) (k : Fin 3) (w : World) :
    Calls Tryd.prog 33 #[A3 d0 d1 d2, .agg #[I x, I y, I z, I a, I b, I c], I (axI k)] w fun e W' => e = .returned (A3 (dimAt d0 d1 d2 k) (dimAt x y z k) (dimAt a b c k)) ∧ Below w.heap.size w W' :=
  side_calls d0 d1 d2 ⟨x, y, z, a, b, c⟩ k w

end Go.Proofs.YtbobfhoimhambaaDoor

/-
  box.along and the four closures that it is handed; box.check, of one box and of two.
-/
namespace Go.Proofs.YtbobfhoimhambaaDoor
open Go.RowKit Go.Shelf

attribute [local go_sem] Oper.semAt_some ext_const

/-- A closure answers p of each axis, in every world that keeps what lay in w. -/
def Answers (f : FuncId) (caps : Array Value) (w : World) (p : Fin 3 → Bool) : Prop :=
  ∀ (x : Ext w) (k : Fin 3), Calls Tryd.prog f (#[I (axI k)] ++ caps) x.wd fun e W' => e = .returned (.bool (p k)) ∧ Below x.wd.heap.size x.wd W'

set_option maxRecDepth 100000 in
set_option maxHeartbeats 2000000 in
theorem along_ck {f : FuncId} {caps : Array Value} {p : Fin 3 → Bool} (w : World) (hf : f = 52 ∧ ∃ a b, caps = #[a, b]) (h : Answers f caps w p) :
    Calls Tryd.prog 43 #[.func (.func f) #[] caps] w fun e W' => e = .returned (.bool (p 0 && p 1 && p 2)) ∧ Below w.heap.size w W' := by
  have H : Hid (Answers f caps w p) := h
  clear h
  obtain ⟨rfl, a, b, rfl⟩ := hf
  all_goals
    go_enter Tryd.func43, Tryd.ntmps43
    go_wp2
    go_loopw [4] (fun i wr => ((i = .int .i64 0 ∧ True) ∨ (i = .int .i64 1 ∧ p 0 = true) ∨ (i = .int .i64 2 ∧ p 0 = true ∧ p 1 = true) ∨ (i = .int .i64 3 ∧ p 0 = true ∧ p 1 = true ∧ p 2 = true)) ∧ Below w.heap.size w wr) (fun i _ => 3 - (intOf i).toNat)
    case atStart => exact ⟨.inl ⟨rfl, trivial⟩, Below.refl _ _⟩
    case round =>
      obtain ⟨hi, hT⟩ := hrel
      rcases hi with ⟨rfl, _⟩ | ⟨rfl, h0⟩ | ⟨rfl, h0, h1⟩ | ⟨rfl, h0, h1, h2⟩
      · go_wp2_with fail
        refine (H.out ⟨wr, hT⟩ 0).mono ?_
        rintro e w1 ⟨rfl, hB⟩
        cases hp : p 0
        · go_wp2
          go_ret
          exact ⟨by simp [hp], then_below hT hB⟩
        · go_wp2
          go_roundw
          case rel => exact ⟨.inr (.inl ⟨rfl, hp⟩), then_below hT hB⟩
          case measure => simp [intOf]
      · go_wp2_with fail
        refine (H.out ⟨wr, hT⟩ 1).mono ?_
        rintro e w1 ⟨rfl, hB⟩
        cases hp : p 1
        · go_wp2
          go_ret
          exact ⟨by simp [hp], then_below hT hB⟩
        · go_wp2
          go_roundw
          case rel => exact ⟨.inr (.inr (.inl ⟨rfl, h0, hp⟩)), then_below hT hB⟩
          case measure => simp [intOf]
      · go_wp2_with fail
        refine (H.out ⟨wr, hT⟩ 2).mono ?_
        rintro e w1 ⟨rfl, hB⟩
        cases hp : p 2
        · go_wp2
          go_ret
          exact ⟨by simp [hp], then_below hT hB⟩
        · go_wp2
          go_roundw
          case rel => exact ⟨.inr (.inr (.inr ⟨rfl, h0, h1, hp⟩)), then_below hT hB⟩
          case measure => simp [intOf]
      · go_wp2
        go_ret
        exact ⟨by simp [h0, h1, h2], hT⟩

set_option maxRecDepth 100000 in
set_option maxHeartbeats 2000000 in
theorem along_ha {f : FuncId} {caps : Array Value} {p : Fin 3 → Bool} (w : World) (hf : f = 44 ∧ ∃ a b c, caps = #[a, b, c]) (h : Answers f caps w p) :
    Calls Tryd.prog 43 #[.func (.func f) #[] caps] w fun e W' => e = .returned (.bool (p 0 && p 1 && p 2)) ∧ Below w.heap.size w W' := by
  have H : Hid (Answers f caps w p) := h
  clear h
  obtain ⟨rfl, a, b, c, rfl⟩ := hf
  all_goals
    go_enter Tryd.func43, Tryd.ntmps43
    go_wp2
    go_loopw [4] (fun i wr => ((i = .int .i64 0 ∧ True) ∨ (i = .int .i64 1 ∧ p 0 = true) ∨ (i = .int .i64 2 ∧ p 0 = true ∧ p 1 = true) ∨ (i = .int .i64 3 ∧ p 0 = true ∧ p 1 = true ∧ p 2 = true)) ∧ Below w.heap.size w wr) (fun i _ => 3 - (intOf i).toNat)
    case atStart => exact ⟨.inl ⟨rfl, trivial⟩, Below.refl _ _⟩
    case round =>
      obtain ⟨hi, hT⟩ := hrel
      rcases hi with ⟨rfl, _⟩ | ⟨rfl, h0⟩ | ⟨rfl, h0, h1⟩ | ⟨rfl, h0, h1, h2⟩
      · go_wp2_with fail
        refine (H.out ⟨wr, hT⟩ 0).mono ?_
        rintro e w1 ⟨rfl, hB⟩
        cases hp : p 0
        · go_wp2
          go_ret
          exact ⟨by simp [hp], then_below hT hB⟩
        · go_wp2
          go_roundw
          case rel => exact ⟨.inr (.inl ⟨rfl, hp⟩), then_below hT hB⟩
          case measure => simp [intOf]
      · go_wp2_with fail
        refine (H.out ⟨wr, hT⟩ 1).mono ?_
        rintro e w1 ⟨rfl, hB⟩
        cases hp : p 1
        · go_wp2
          go_ret
          exact ⟨by simp [hp], then_below hT hB⟩
        · go_wp2
          go_roundw
          case rel => exact ⟨.inr (.inr (.inl ⟨rfl, h0, hp⟩)), then_below hT hB⟩
          case measure => simp [intOf]
      · go_wp2_with fail
        refine (H.out ⟨wr, hT⟩ 2).mono ?_
        rintro e w1 ⟨rfl, hB⟩
        cases hp : p 2
        · go_wp2
          go_ret
          exact ⟨by simp [hp], then_below hT hB⟩
        · go_wp2
          go_roundw
          case rel => exact ⟨.inr (.inr (.inr ⟨rfl, h0, h1, hp⟩)), then_below hT hB⟩
          case measure => simp [intOf]
      · go_wp2
        go_ret
        exact ⟨by simp [h0, h1, h2], hT⟩

theorem ans_check {w : World} {D B : Nat} {d0 d1 d2 : Int} {b : Bx} (hd : Blk w D 27 #[I d0, I d1, I d2]) (hb : Blk w B 30 #[I b.x, I b.y, I b.z, I b.a, I b.b, I b.c]) :
    Answers 52 #[.pointer (some ⟨D, 0, none⟩), .pointer (some ⟨B, 0, none⟩)] w (fun k => maySB (dimAt d0 d1 d2 k) (bAt b k) (sAt b k)) := by
  intro x k
  obtain ⟨c0, c1, c2, hz⟩ := hd.three x.le
  obtain ⟨⟨k0, k1, k2⟩, ⟨k3, k4, k5⟩, hz1⟩ := hb.six x.le
  simp only [List.append_toArray, List.cons_append, List.nil_append]
  go_enter Tryd.func52, Tryd.ntmps52
  go_wp2_with fail
  refine (side_calls d0 d1 d2 b k _).mono ?_
  rintro e w1 ⟨rfl, hB1⟩
  go_wp2_with fail
  refine (maybe_calls _ _ _ _).mono ?_
  rintro e w2 ⟨rfl, hB2⟩
  go_wp2
  go_ret
  exact ⟨rfl, then_below hB1 hB2⟩

theorem ans_has {w : World} {D B C : Nat} {d0 d1 d2 p0 p1 p2 : Int} {b : Bx} (hd : Blk w D 27 #[I d0, I d1, I d2]) (hb : Blk w B 30 #[I b.x, I b.y, I b.z, I b.a, I b.b, I b.c]) (hc : Blk w C 26 #[I p0, I p1, I p2])
    (hm : mayD d0 d1 d2) (hmb : mayB d0 d1 d2 b) (hp : inD d0 d1 d2 p0 p1 p2) :
    Answers 44 #[.pointer (some ⟨D, 0, none⟩), .pointer (some ⟨B, 0, none⟩), .pointer (some ⟨C, 0, none⟩)] w (fun k => hasS (dimAt d0 d1 d2 k) (bAt b k) (sAt b k) (dimAt p0 p1 p2 k)) := by
  intro x k
  have hmx : Tryd.prog.follows .mixedOrders = true := by kernel_rfl
  have x0 := Ext.cell (hd.later x.le) 0
  have x1 := Ext.cell (hd.later x.le) 1
  have x2 := Ext.cell (hd.later x.le) 2
  have y0 := Ext.cell (hc.later x.le) 0
  have y1 := Ext.cell (hc.later x.le) 1
  have y2 := Ext.cell (hc.later x.le) 2
  have z0 := Ext.cell (hb.later x.le) 0
  have z1 := Ext.cell (hb.later x.le) 1
  have z2 := Ext.cell (hb.later x.le) 2
  have z3 := Ext.cell (hb.later x.le) 3
  have z4 := Ext.cell (hb.later x.le) 4
  have z5 := Ext.cell (hb.later x.le) 5
  simp at x0 x1 x2 y0 y1 y2 z0 z1 z2 z3 z4 z5
  have hr := (dimAt_ok hm k).2
  have hbk := (mayB_at hmb k).2
  have hpk := inK_of hp k
  unfold inK at hpk
  have S := fun w => side_calls d0 d1 d2 b k w
  simp only [List.append_toArray, List.cons_append, List.nil_append]
  rcases fin3 k with rfl | rfl | rfl
  all_goals
    simp only [axI, bAt, sAt, dimAt] at hr hbk hpk S ⊢
    go_enter Tryd.func44, Tryd.ntmps44
    go_wp2
    refine wp_region_look hmx (by kernel_rfl) ?_
    repeat (go_big_quiet_step (first | (go_at_call 33; exact calls_ext (S _)) | (go_at_call 45; exact calls_ext (has_calls _ _ hr hbk hpk))))
    refine wpQuiet_nil ?_
    intro v
    go_wp2
    go_ret
    exact ⟨rfl, v.le⟩

end Go.Proofs.YtbobfhoimhambaaDoor

/-
  box.check, of one box and of two; box.Check: what each call answers.
-/
namespace Go.Proofs.YtbobfhoimhambaaDoor
open Go.RowKit Go.Shelf

attribute [local go_sem] Oper.semAt_some ext_const

def codeOf (b : Bool) : Int := if b then 0 else 2

theorem chk_bad {d0 d1 d2 : Int} (v : Value) (w : World) (hm : ¬ mayD d0 d1 d2) :
    Calls Tryd.prog 32 #[A3 d0 d1 d2, v] w fun e W' => e = .returned (I 8) ∧ Below w.heap.size w W' := by
  go_enter Tryd.func32, Tryd.ntmps32
  go_wp2_with fail
  refine (check_no _ hm).mono ?_
  rintro e w1 ⟨rfl, hB⟩
  go_wp2
  go_ret
  exact ⟨rfl, then_below ((Below.refl _ w).alloc (Nat.le_refl _) _) hB⟩

/-- The calls of box.along in box.check. -/
theorem along_check {w : World} {D B : Nat} {d0 d1 d2 : Int} {b : Bx} (hd : Blk w D 27 #[I d0, I d1, I d2]) (hb : Blk w B 30 #[I b.x, I b.y, I b.z, I b.a, I b.b, I b.c]) :
    Calls Tryd.prog 43 #[.func (.func 52) #[] #[.pointer (some ⟨D, 0, none⟩), .pointer (some ⟨B, 0, none⟩)]] w fun e W' => e = .returned (.bool (mayBB d0 d1 d2 b)) ∧ Below w.heap.size w W' :=
  along_ck w ⟨rfl, _, _, rfl⟩ (ans_check hd hb)

set_option maxRecDepth 100000 in
set_option maxHeartbeats 2000000 in
theorem chk_one {d0 d1 d2 : Int} {b : Bx} (S : Nat) (w : World) (hm : mayD d0 d1 d2) (hS : Blk w S 30 #[I b.x, I b.y, I b.z, I b.a, I b.b, I b.c]) :
    Calls Tryd.prog 32 #[A3 d0 d1 d2, .slice (some ⟨S, 0, none⟩) 1 1] w fun e W' => e = .returned (I (codeOf (mayBB d0 d1 d2 b))) ∧ Below w.heap.size w W' := by
  go_enter Tryd.func32, Tryd.ntmps32
  go_wp2_with fail
  have hB0 : Below w.heap.size w (w.alloc (.cells #[I d0, I d1, I d2] 27)) := (Below.refl _ w).alloc (Nat.le_refl _) _
  have b0 := Blk.new w 27 #[I d0, I d1, I d2]
  have b1 := hS.later hB0
  generalize w.alloc (.cells #[I d0, I d1, I d2] 27) = W at *
  refine (check_yes _ hm).mono ?_
  rintro e w1 ⟨rfl, hT⟩
  go_wp2_with fail
  go_loopw [16] (fun i wr => ((i = .int .i64 0) ∨ (i = .int .i64 1 ∧ mayBB d0 d1 d2 b = true)) ∧ Below W.heap.size W wr) (fun i _ => 1 - (intOf i).toNat)
  case atStart => exact ⟨.inl rfl, hT⟩
  case round =>
    obtain ⟨hi, hT⟩ := hrel
    rcases hi with rfl | ⟨rfl, h0⟩
    · obtain ⟨⟨k0, k1, k2⟩, ⟨k3, k4, k5⟩, hz1⟩ := b1.six hT
      go_wp2_with fail
      have q0 := (b0.later hT).alloc (.cells #[I b.x, I b.y, I b.z, I b.a, I b.b, I b.c] 30)
      have q1 := Blk.new wr 30 #[I b.x, I b.y, I b.z, I b.a, I b.b, I b.c]
      have hT := then_alloc hT (.cells #[I b.x, I b.y, I b.z, I b.a, I b.b, I b.c] 30)
      refine (along_check q0 q1).mono ?_
      rintro e w2 ⟨rfl, hB⟩
      cases hp : mayBB d0 d1 d2 b
      · go_wp2
        go_ret
        exact ⟨by simp [codeOf, hp], then_below hB0 (then_below hT hB)⟩
      · go_wp2
        go_roundw
        case rel => exact ⟨.inr ⟨rfl, hp⟩, then_below hT hB⟩
        case measure => simp [intOf]
    · go_wp2
      go_ret
      exact ⟨by simp [codeOf, h0], then_below hB0 hT⟩

set_option maxRecDepth 100000 in
set_option maxHeartbeats 2000000 in
theorem chk_two {d0 d1 d2 : Int} {a b : Bx} (S : Nat) (w : World) (hm : mayD d0 d1 d2) (hS : Blk w S 30 #[I a.x, I a.y, I a.z, I a.a, I a.b, I a.c, I b.x, I b.y, I b.z, I b.a, I b.b, I b.c]) :
    Calls Tryd.prog 32 #[A3 d0 d1 d2, .slice (some ⟨S, 0, none⟩) 2 2] w fun e W' => e = .returned (I (codeOf (mayBB d0 d1 d2 a && mayBB d0 d1 d2 b))) ∧ Below w.heap.size w W' := by
  go_enter Tryd.func32, Tryd.ntmps32
  go_wp2_with fail
  have hB0 : Below w.heap.size w (w.alloc (.cells #[I d0, I d1, I d2] 27)) := (Below.refl _ w).alloc (Nat.le_refl _) _
  have b0 := Blk.new w 27 #[I d0, I d1, I d2]
  have b1 := hS.later hB0
  generalize w.alloc (.cells #[I d0, I d1, I d2] 27) = W at *
  refine (check_yes _ hm).mono ?_
  rintro e w1 ⟨rfl, hT⟩
  go_wp2_with fail
  go_loopw [16] (fun i wr => ((i = .int .i64 0) ∨ (i = .int .i64 1 ∧ mayBB d0 d1 d2 a = true) ∨ (i = .int .i64 2 ∧ mayBB d0 d1 d2 a = true ∧ mayBB d0 d1 d2 b = true)) ∧ Below W.heap.size W wr) (fun i _ => 2 - (intOf i).toNat)
  case atStart => exact ⟨.inl rfl, hT⟩
  case round =>
    obtain ⟨hi, hT⟩ := hrel
    have r1 := b1.later hT
    rcases hi with rfl | ⟨rfl, h0⟩ | ⟨rfl, h0, h1⟩
    · have k0 := r1.cell 0
      have k1 := r1.cell 1
      have k2 := r1.cell 2
      have k3 := r1.cell 3
      have k4 := r1.cell 4
      have k5 := r1.cell 5
      simp at k0 k1 k2 k3 k4 k5
      go_wp2_with fail
      have q0 := (b0.later hT).alloc (.cells #[I a.x, I a.y, I a.z, I a.a, I a.b, I a.c] 30)
      have q1 := Blk.new wr 30 #[I a.x, I a.y, I a.z, I a.a, I a.b, I a.c]
      have hT := then_alloc hT (.cells #[I a.x, I a.y, I a.z, I a.a, I a.b, I a.c] 30)
      refine (along_check q0 q1).mono ?_
      rintro e w2 ⟨rfl, hB⟩
      cases hp : mayBB d0 d1 d2 a
      · go_wp2
        go_ret
        exact ⟨by simp [codeOf, hp], then_below hB0 (then_below hT hB)⟩
      · go_wp2
        go_roundw
        case rel => exact ⟨.inr (.inl ⟨rfl, hp⟩), then_below hT hB⟩
        case measure => simp [intOf]
    · have k0 := r1.cell 6
      have k1 := r1.cell 7
      have k2 := r1.cell 8
      have k3 := r1.cell 9
      have k4 := r1.cell 10
      have k5 := r1.cell 11
      simp at k0 k1 k2 k3 k4 k5
      go_wp2_with fail
      have q0 := (b0.later hT).alloc (.cells #[I b.x, I b.y, I b.z, I b.a, I b.b, I b.c] 30)
      have q1 := Blk.new wr 30 #[I b.x, I b.y, I b.z, I b.a, I b.b, I b.c]
      have hT := then_alloc hT (.cells #[I b.x, I b.y, I b.z, I b.a, I b.b, I b.c] 30)
      refine (along_check q0 q1).mono ?_
      rintro e w2 ⟨rfl, hB⟩
      cases hp : mayBB d0 d1 d2 b
      · go_wp2
        go_ret
        exact ⟨by simp [codeOf, hp], then_below hB0 (then_below hT hB)⟩
      · go_wp2
        go_roundw
        case rel => exact ⟨.inr (.inr ⟨rfl, h0, hp⟩), then_below hT hB⟩
        case measure => simp [intOf]
    · go_wp2
      go_ret
      exact ⟨by simp [codeOf, h0, h1], then_below hB0 hT⟩

/-- The error of a box. -/
def errB (d0 d1 d2 : Int) (b : Bx) : Int := if okDB d0 d1 d2 then codeOf (mayBB d0 d1 d2 b) else 8
def errB2 (d0 d1 d2 : Int) (a b : Bx) : Int := if okDB d0 d1 d2 then codeOf (mayBB d0 d1 d2 a && mayBB d0 d1 d2 b) else 8

theorem chk1 {d0 d1 d2 : Int} {b : Bx} (S : Nat) (w : World) (hS : Blk w S 30 #[I b.x, I b.y, I b.z, I b.a, I b.b, I b.c]) :
    Calls Tryd.prog 32 #[A3 d0 d1 d2, .slice (some ⟨S, 0, none⟩) 1 1] w fun e W' => e = .returned (I (errB d0 d1 d2 b)) ∧ Below w.heap.size w W' := by
  by_cases hm : mayD d0 d1 d2
  · rw [errB, if_pos ((okDB_iff _ _ _).2 hm)]; exact chk_one S w hm hS
  · rw [errB, if_neg (by rw [okDB_iff]; exact hm)]; exact chk_bad _ w hm
theorem chk2 {d0 d1 d2 : Int} {a b : Bx} (S : Nat) (w : World) (hS : Blk w S 30 #[I a.x, I a.y, I a.z, I a.a, I a.b, I a.c, I b.x, I b.y, I b.z, I b.a, I b.b, I b.c]) :
    Calls Tryd.prog 32 #[A3 d0 d1 d2, .slice (some ⟨S, 0, none⟩) 2 2] w fun e W' => e = .returned (I (errB2 d0 d1 d2 a b)) ∧ Below w.heap.size w W' := by
  by_cases hm : mayD d0 d1 d2
  · rw [errB2, if_pos ((okDB_iff _ _ _).2 hm)]; exact chk_two S w hm hS
  · rw [errB2, if_neg (by rw [okDB_iff]; exact hm)]; exact chk_bad _ w hm

end Go.Proofs.YtbobfhoimhambaaDoor

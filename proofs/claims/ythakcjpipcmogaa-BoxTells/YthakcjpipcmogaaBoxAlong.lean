/-
  box.along and the four closures that it is handed; box.check, of one box and of two.
-/
import Derived.Test.YthakcjpipcmogaaBoxSide
namespace Go.Proofs.Ythakcjpipcmogaa
open Go.RowKit Go.Shelf

attribute [local go_sem] Oper.semAt_some ext_const

/-- A closure answers p of each axis, in every world that keeps what lay in w. -/
def Answers (f : FuncId) (caps : Array Value) (w : World) (p : Fin 3 → Bool) : Prop :=
  ∀ (x : Ext w) (k : Fin 3), Calls Try.prog f (#[I (axI k)] ++ caps) x.wd fun e W' => e = .returned (.bool (p k)) ∧ Below x.wd.heap.size x.wd W'

set_option maxRecDepth 100000 in
set_option maxHeartbeats 2000000 in
theorem along_calls {f : FuncId} {caps : Array Value} {p : Fin 3 → Bool} (w : World) (hf : (f = 48 ∧ ∃ a b, caps = #[a, b]) ∨ ((f = 29 ∨ f = 32 ∨ f = 37) ∧ ∃ a b c, caps = #[a, b, c])) (h : Answers f caps w p) :
    Calls Try.prog 28 #[.func (.func f) #[] caps] w fun e W' => e = .returned (.bool (p 0 && p 1 && p 2)) ∧ Below w.heap.size w W' := by
  have H : Hid (Answers f caps w p) := h
  clear h
  rcases hf with ⟨rfl, a, b, rfl⟩ | ⟨rfl | rfl | rfl, a, b, c, rfl⟩
  all_goals
    go_enter Try.func28, Try.ntmps28
    go_wp2
    go_loopw [4] (fun i wr => ((i = .int .i64 0 ∧ True) ∨ (i = .int .i64 1 ∧ p 0 = true) ∨ (i = .int .i64 2 ∧ p 0 = true ∧ p 1 = true) ∨ (i = .int .i64 3 ∧ p 0 = true ∧ p 1 = true ∧ p 2 = true)) ∧ Below w.heap.size w wr) (fun i _ => 3 - (intOf i).toNat)
    case atStart => exact ⟨.inl ⟨rfl, trivial⟩, Below.refl _ _⟩
    case round =>
      obtain ⟨hi, hT⟩ := hrel
      rcases hi with ⟨rfl, _⟩ | ⟨rfl, h0⟩ | ⟨rfl, h0, h1⟩ | ⟨rfl, h0, h1, h2⟩
      · go_wp2_with fail
        refine (H.out ⟨wr, hT⟩ 0).mono ?_
        rintro e w1 ⟨rfl, hB⟩
        cases hp : p 0
        · go_wp2
          go_ret
          exact ⟨by simp [hp], then_below hT hB⟩
        · go_wp2
          go_roundw
          case rel => exact ⟨.inr (.inl ⟨rfl, hp⟩), then_below hT hB⟩
          case measure => simp [intOf]
      · go_wp2_with fail
        refine (H.out ⟨wr, hT⟩ 1).mono ?_
        rintro e w1 ⟨rfl, hB⟩
        cases hp : p 1
        · go_wp2
          go_ret
          exact ⟨by simp [hp], then_below hT hB⟩
        · go_wp2
          go_roundw
          case rel => exact ⟨.inr (.inr (.inl ⟨rfl, h0, hp⟩)), then_below hT hB⟩
          case measure => simp [intOf]
      · go_wp2_with fail
        refine (H.out ⟨wr, hT⟩ 2).mono ?_
        rintro e w1 ⟨rfl, hB⟩
        cases hp : p 2
        · go_wp2
          go_ret
          exact ⟨by simp [hp], then_below hT hB⟩
        · go_wp2
          go_roundw
          case rel => exact ⟨.inr (.inr (.inr ⟨rfl, h0, h1, hp⟩)), then_below hT hB⟩
          case measure => simp [intOf]
      · go_wp2
        go_ret
        exact ⟨by simp [h0, h1, h2], hT⟩

theorem ans_check {w : World} {D B : Nat} {d0 d1 d2 : Int} {b : Bx} (hd : Blk w D 28 #[I d0, I d1, I d2]) (hb : Blk w B 24 #[I b.x, I b.y, I b.z, I b.a, I b.b, I b.c]) :
    Answers 48 #[.pointer (some ⟨D, 0, none⟩), .pointer (some ⟨B, 0, none⟩)] w (fun k => maySB (dimAt d0 d1 d2 k) (bAt b k) (sAt b k)) := by
  intro x k
  obtain ⟨c0, c1, c2, hz⟩ := hd.three x.le
  obtain ⟨⟨k0, k1, k2⟩, ⟨k3, k4, k5⟩, hz1⟩ := hb.six x.le
  simp only [List.append_toArray, List.cons_append, List.nil_append]
  go_enter Try.func48, Try.ntmps48
  go_wp2_with fail
  refine (side_calls d0 d1 d2 b k _).mono ?_
  rintro e w1 ⟨rfl, hB1⟩
  go_wp2_with fail
  refine (maybe_calls _ _ _ _).mono ?_
  rintro e w2 ⟨rfl, hB2⟩
  go_wp2
  go_ret
  exact ⟨rfl, then_below hB1 hB2⟩

theorem ans_meet {w : World} {D A B : Nat} {d0 d1 d2 : Int} {a b : Bx} (hd : Blk w D 28 #[I d0, I d1, I d2]) (ha : Blk w A 24 #[I a.x, I a.y, I a.z, I a.a, I a.b, I a.c]) (hb : Blk w B 24 #[I b.x, I b.y, I b.z, I b.a, I b.b, I b.c])
    (hm : mayD d0 d1 d2) (hma : mayB d0 d1 d2 a) (hmb : mayB d0 d1 d2 b) :
    Answers 29 #[.pointer (some ⟨D, 0, none⟩), .pointer (some ⟨A, 0, none⟩), .pointer (some ⟨B, 0, none⟩)] w (fun k => meetS (dimAt d0 d1 d2 k) (bAt a k) (sAt a k) (bAt b k) (sAt b k)) := by
  intro x k
  have hmx : Try.prog.follows .mixedOrders = true := by kernel_rfl
  have x0 := Ext.cell (hd.later x.le) 0
  have x1 := Ext.cell (hd.later x.le) 1
  have x2 := Ext.cell (hd.later x.le) 2
  have y0 := Ext.cell (ha.later x.le) 0
  have y1 := Ext.cell (ha.later x.le) 1
  have y2 := Ext.cell (ha.later x.le) 2
  have y3 := Ext.cell (ha.later x.le) 3
  have y4 := Ext.cell (ha.later x.le) 4
  have y5 := Ext.cell (ha.later x.le) 5
  have z0 := Ext.cell (hb.later x.le) 0
  have z1 := Ext.cell (hb.later x.le) 1
  have z2 := Ext.cell (hb.later x.le) 2
  have z3 := Ext.cell (hb.later x.le) 3
  have z4 := Ext.cell (hb.later x.le) 4
  have z5 := Ext.cell (hb.later x.le) 5
  simp at x0 x1 x2 y0 y1 y2 y3 y4 y5 z0 z1 z2 z3 z4 z5
  simp only [List.append_toArray, List.cons_append, List.nil_append]
  go_enter Try.func29, Try.ntmps29
  go_wp2
  refine wp_region_look hmx (by kernel_rfl) ?_
  repeat (go_big_quiet_step (first | (go_at_call 30; exact calls_ext (side_any _ _ _ _ _ _ _ _ _ k _)) | (go_at_call 31; exact calls_ext (meets_calls _ (dimAt_ok hm k).2 (mayB_at hma k) (mayB_at hmb k)))))
  refine wpQuiet_nil ?_
  intro v
  go_wp2
  go_ret
  exact ⟨rfl, v.le⟩

theorem ans_within {w : World} {D A B : Nat} {d0 d1 d2 : Int} {a b : Bx} (hd : Blk w D 28 #[I d0, I d1, I d2]) (ha : Blk w A 24 #[I a.x, I a.y, I a.z, I a.a, I a.b, I a.c]) (hb : Blk w B 24 #[I b.x, I b.y, I b.z, I b.a, I b.b, I b.c])
    (hm : mayD d0 d1 d2) (hma : mayB d0 d1 d2 a) (hmb : mayB d0 d1 d2 b) :
    Answers 32 #[.pointer (some ⟨D, 0, none⟩), .pointer (some ⟨A, 0, none⟩), .pointer (some ⟨B, 0, none⟩)] w (fun k => inS (dimAt d0 d1 d2 k) (bAt a k) (sAt a k) (bAt b k) (sAt b k)) := by
  intro x k
  have hmx : Try.prog.follows .mixedOrders = true := by kernel_rfl
  have x0 := Ext.cell (hd.later x.le) 0
  have x1 := Ext.cell (hd.later x.le) 1
  have x2 := Ext.cell (hd.later x.le) 2
  have y0 := Ext.cell (ha.later x.le) 0
  have y1 := Ext.cell (ha.later x.le) 1
  have y2 := Ext.cell (ha.later x.le) 2
  have y3 := Ext.cell (ha.later x.le) 3
  have y4 := Ext.cell (ha.later x.le) 4
  have y5 := Ext.cell (ha.later x.le) 5
  have z0 := Ext.cell (hb.later x.le) 0
  have z1 := Ext.cell (hb.later x.le) 1
  have z2 := Ext.cell (hb.later x.le) 2
  have z3 := Ext.cell (hb.later x.le) 3
  have z4 := Ext.cell (hb.later x.le) 4
  have z5 := Ext.cell (hb.later x.le) 5
  simp at x0 x1 x2 y0 y1 y2 y3 y4 y5 z0 z1 z2 z3 z4 z5
  simp only [List.append_toArray, List.cons_append, List.nil_append]
  go_enter Try.func32, Try.ntmps32
  go_wp2
  refine wp_region_look hmx (by kernel_rfl) ?_
  repeat (go_big_quiet_step (first | (go_at_call 30; exact calls_ext (side_any _ _ _ _ _ _ _ _ _ k _)) | (go_at_call 33; exact calls_ext (within_calls _ (dimAt_ok hm k).2 (mayB_at hma k) (mayB_at hmb k)))))
  refine wpQuiet_nil ?_
  intro v
  go_wp2
  go_ret
  exact ⟨rfl, v.le⟩

theorem ans_has {w : World} {D B C : Nat} {d0 d1 d2 p0 p1 p2 : Int} {b : Bx} (hd : Blk w D 28 #[I d0, I d1, I d2]) (hb : Blk w B 24 #[I b.x, I b.y, I b.z, I b.a, I b.b, I b.c]) (hc : Blk w C 22 #[I p0, I p1, I p2])
    (hm : mayD d0 d1 d2) (hmb : mayB d0 d1 d2 b) (hp : inD d0 d1 d2 p0 p1 p2) :
    Answers 37 #[.pointer (some ⟨D, 0, none⟩), .pointer (some ⟨B, 0, none⟩), .pointer (some ⟨C, 0, none⟩)] w (fun k => hasS (dimAt d0 d1 d2 k) (bAt b k) (sAt b k) (dimAt p0 p1 p2 k)) := by
  intro x k
  have hmx : Try.prog.follows .mixedOrders = true := by kernel_rfl
  have x0 := Ext.cell (hd.later x.le) 0
  have x1 := Ext.cell (hd.later x.le) 1
  have x2 := Ext.cell (hd.later x.le) 2
  have y0 := Ext.cell (hc.later x.le) 0
  have y1 := Ext.cell (hc.later x.le) 1
  have y2 := Ext.cell (hc.later x.le) 2
  have z0 := Ext.cell (hb.later x.le) 0
  have z1 := Ext.cell (hb.later x.le) 1
  have z2 := Ext.cell (hb.later x.le) 2
  have z3 := Ext.cell (hb.later x.le) 3
  have z4 := Ext.cell (hb.later x.le) 4
  have z5 := Ext.cell (hb.later x.le) 5
  simp at x0 x1 x2 y0 y1 y2 z0 z1 z2 z3 z4 z5
  have hr := (dimAt_ok hm k).2
  have hbk := (mayB_at hmb k).2
  have hpk := inK_of hp k
  unfold inK at hpk
  have S := fun w => side_calls d0 d1 d2 b k w
  simp only [List.append_toArray, List.cons_append, List.nil_append]
  rcases fin3 k with rfl | rfl | rfl
  all_goals
    simp only [axI, bAt, sAt, dimAt] at hr hbk hpk S ⊢
    go_enter Try.func37, Try.ntmps37
    go_wp2
    refine wp_region_look hmx (by kernel_rfl) ?_
    repeat (go_big_quiet_step (first | (go_at_call 30; exact calls_ext (S _)) | (go_at_call 38; exact calls_ext (has_calls _ _ hr hbk hpk))))
    refine wpQuiet_nil ?_
    intro v
    go_wp2
    go_ret
    exact ⟨rfl, v.le⟩

end Go.Proofs.Ythakcjpipcmogaa

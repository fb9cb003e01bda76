/-
  pos.Many, pos.checkNode: what each call answers, for every input; nothing that lay before is turned.
-/
import Derived.Test.YtbobfhoimhambaaGreatDoorPart3
import Derived.Test.YtbobfhoimhambaaGreatDoorPart2
import Derived.Test.YtbobfhoimhambaaGreatDoorPart1
namespace Go.Proofs.YtbobfhoimhambaaGreatDoor
open Go.RowKit Go.Shelf

attribute [local go_sem] Oper.semAt_some ext_const

set_option maxHeartbeats 400000 in
theorem many_no {d0 d1 d2 : Int} (w : World) (hm : ¬ mayD d0 d1 d2) :
    Calls Tryz.prog 18 #[A3 d0 d1 d2] w fun e W' => e = .returned (.tuple #[I 0, I 8]) ∧ Below w.heap.size w W' := by
  go_enter Tryz.func18, Tryz.ntmps18
  go_wp2_with fail
  refine (check_no _ hm).mono ?_
  rintro e w1 ⟨rfl, hB⟩
  go_wp2
  go_ret2
  exact ⟨rfl, ((Below.refl _ w).alloc (Nat.le_refl _) _).trans (hB.mono (by simp))⟩

set_option maxHeartbeats 400000 in
theorem many_yes {d0 d1 d2 : Int} (w : World) (hm : mayD d0 d1 d2) :
    Calls Tryz.prog 18 #[A3 d0 d1 d2] w fun e W' => e = .returned (.tuple #[I (d0 * d1 * d2), I 0]) ∧ Below w.heap.size w W' := by
  go_enter Tryz.func18, Tryz.ntmps18
  go_wp2_with fail
  refine (check_yes _ hm).mono ?_
  rintro e w1 ⟨rfl, hB⟩
  have b0 := (Blk.new w 23 #[I d0, I d1, I d2]).later hB
  have c0 := b0.cell 0
  have c1 := b0.cell 1
  have c2 := b0.cell 2
  simp at c0 c1 c2
  go_wp2_with fail
  refine (many_calls _ hm).mono ?_
  rintro e w2 ⟨rfl, hB2⟩
  go_wp2
  go_ret2
  exact ⟨rfl, (((Below.refl _ w).alloc (Nat.le_refl _) _).trans (hB.mono (by simp))).trans (hB2.mono (by have := hB.size; simp at this; omega))⟩

set_option maxHeartbeats 400000 in
theorem node_bad {d0 d1 d2 : Int} (m : Int) (w : World) (hm : ¬ mayD d0 d1 d2) :
    Calls Tryz.prog 87 #[A3 d0 d1 d2, I m] w fun e W' => e = .returned (I 8) ∧ Below w.heap.size w W' := by
  go_enter Tryz.func87, Tryz.ntmps87
  go_wp2_with fail
  refine (many_no _ hm).mono ?_
  rintro e w1 ⟨rfl, hB⟩
  go_wp2
  go_ret
  exact ⟨rfl, ((Below.refl _ w).alloc (Nat.le_refl _) _).trans (hB.mono (by simp))⟩

set_option maxHeartbeats 400000 in
theorem node_no {d0 d1 d2 : Int} (m : Int) (w : World) (hm : mayD d0 d1 d2) (hn : belowB m (d0 * d1 * d2) = false) :
    Calls Tryz.prog 87 #[A3 d0 d1 d2, I m] w fun e W' => e = .returned (I 2) ∧ Below w.heap.size w W' := by
  go_enter Tryz.func87, Tryz.ntmps87
  go_wp2_with fail
  refine (many_yes _ hm).mono ?_
  rintro e w1 ⟨rfl, hB⟩
  go_wp2_with fail
  refine (below_calls _ _ _).mono ?_
  rintro e w2 ⟨rfl, rfl⟩
  go_wp2
  go_ret
  exact ⟨rfl, ((Below.refl _ w).alloc (Nat.le_refl _) _).trans (hB.mono (by simp))⟩

set_option maxHeartbeats 400000 in
theorem node_yes {d0 d1 d2 : Int} (m : Int) (w : World) (hm : mayD d0 d1 d2) (hn : belowB m (d0 * d1 * d2) = true) :
    Calls Tryz.prog 87 #[A3 d0 d1 d2, I m] w fun e W' => e = .returned (I 0) ∧ Below w.heap.size w W' := by
  go_enter Tryz.func87, Tryz.ntmps87
  go_wp2_with fail
  refine (many_yes _ hm).mono ?_
  rintro e w1 ⟨rfl, hB⟩
  go_wp2_with fail
  refine (below_calls _ _ _).mono ?_
  rintro e w2 ⟨rfl, rfl⟩
  go_wp2
  go_ret
  exact ⟨rfl, ((Below.refl _ w).alloc (Nat.le_refl _) _).trans (hB.mono (by simp))⟩

end Go.Proofs.YtbobfhoimhambaaGreatDoor

/-
  box's sides: sideOf, mayBe, after, has, meets, within: what each call answers; nothing that lay before is turned.
-/
namespace Go.Proofs.YtbobfhoimhambaaGreatDoor
open Go.RowKit Go.Shelf

attribute [local go_sem] Oper.semAt_some ext_const

/-- What a later world has in a box's block. -/
theorem Blk.six {W W' : World} {B : Nat} {t : TypeId} {a b c d e f : Int} (h : Blk W B t #[I a, I b, I c, I d, I e, I f]) (hb : Below W.heap.size W W') :
    (W'.cell? ⟨B, 0, none⟩ = some (I a) ∧ W'.cell? ⟨B, 1, none⟩ = some (I b) ∧ W'.cell? ⟨B, 2, none⟩ = some (I c)) ∧ (W'.cell? ⟨B, 3, none⟩ = some (I d) ∧ W'.cell? ⟨B, 4, none⟩ = some (I e) ∧ W'.cell? ⟨B, 5, none⟩ = some (I f)) ∧ B < W'.heap.size :=
  ⟨⟨(h.later hb).cell 0, (h.later hb).cell 1, (h.later hb).cell 2⟩, ⟨(h.later hb).cell 3, (h.later hb).cell 4, (h.later hb).cell 5⟩, (h.later hb).lt⟩

theorem after_calls {r b k : Int} (s : Int) (w : World) (hr : r ≤ 16) (hb : 0 ≤ b ∧ b < r) (hk : 0 ≤ k ∧ k < r) :
    Calls Tryz.prog 82 #[A3 r b s, I k] w fun e W' => e = .returned (I (aft r b k)) ∧ Below w.heap.size w W' := by
  have HR : Hid ((k - b + r) % r = aft r b k) := aft_rem hb hk
  obtain ⟨b0, b1⟩ := hb
  obtain ⟨k0, k1⟩ := hk
  go_enter Tryz.func82, Tryz.ntmps82
  go_wp2
  go_ret
  rw [HR.out]
  exact ⟨rfl, (Below.refl _ w).alloc (Nat.le_refl _) _⟩

theorem has_calls {r b k : Int} (s : Int) (w : World) (hr : r ≤ 16) (hb : 0 ≤ b ∧ b < r) (hk : 0 ≤ k ∧ k < r) :
    Calls Tryz.prog 72 #[A3 r b s, I k] w fun e W' => e = .returned (.bool (hasS r b s k)) ∧ Below w.heap.size w W' := by
  have hmx : Tryz.prog.follows .mixedOrders = true := by kernel_rfl
  go_enter Tryz.func72, Tryz.ntmps72
  go_wp2
  have b0 := Blk.new w 89 #[I r, I b, I s]
  have x0 := Ext.cell b0 0
  have x1 := Ext.cell b0 1
  have x2 := Ext.cell b0 2
  simp at x0 x1 x2
  have hT : Below w.heap.size w (w.alloc (.cells #[I r, I b, I s] 89)) := (Below.refl _ w).alloc (Nat.le_refl _) _
  refine wp_region_look hmx (by kernel_rfl) ?_
  repeat (go_big_quiet_step ((go_at_call 82; exact calls_ext (after_calls s _ hr hb hk))))
  refine wpQuiet_nil ?_
  intro v
  go_wp2
  go_ret
  exact ⟨rfl, then_below hT v.le⟩

theorem maybe_calls (r b s : Int) (w : World) :
    Calls Tryz.prog 71 #[A3 r b s] w fun e W' => e = .returned (.bool (maySB r b s)) ∧ Below w.heap.size w W' := by
  go_enter Tryz.func71, Tryz.ntmps71
  go_wp2
  all_goals
    go_ret
    refine ⟨?_, (Below.refl _ w).alloc (Nat.le_refl _) _⟩
    simp [maySB, *]
    try omega

theorem three_start (w : World) (u0 u1 u2 : Array Value) (t0 t1 t2 : TypeId) :
    ∃ W : World, ((w.alloc (.cells u0 t0)).alloc (.cells u1 t1)).alloc (.cells u2 t2) = W ∧ W.heap.size = w.heap.size + 3 ∧ Below w.heap.size w W ∧ Blk W w.heap.size t0 u0 ∧ Blk W (w.heap.size + 1) t1 u1 ∧ Blk W (w.heap.size + 1 + 1) t2 u2 := by
  obtain ⟨W, hW, hB, b0, b1⟩ := two_start w u0 u1 t0 t1
  refine ⟨_, rfl, by simp, ?_, ?_, ?_, ?_⟩
  · rw [hW]; exact then_alloc hB _
  · rw [hW]; exact b0.alloc _
  · rw [hW]; exact b1.alloc _
  · have := Blk.new ((w.alloc (.cells u0 t0)).alloc (.cells u1 t1)) t2 u2; simpa using this

set_option maxHeartbeats 1000000 in
theorem side_calls (d0 d1 d2 : Int) (b : Bx) (k : Fin 3) (w : World) :
    Calls Tryz.prog 52 #[A3 d0 d1 d2, B6 b, I (axI k)] w fun e W' => e = .returned (A3 (dimAt d0 d1 d2 k) (bAt b k) (sAt b k)) ∧ Below w.heap.size w W' := by
  have hmx : Tryz.prog.follows .mixedOrders = true := by kernel_rfl
  rcases fin3 k with rfl | rfl | rfl
  all_goals
    simp only [axI, bAt, sAt, dimAt]
    go_enter Tryz.func52, Tryz.ntmps52
    go_wp2
    obtain ⟨W, hW, hs, hB0, b0, b1, b2⟩ := three_start w #[I d0, I d1, I d2] #[I b.x, I b.y, I b.z, I b.a, I b.b, I b.c] #[I 0, I 0, I 0] 23 25 89
    rw [hW]
    clear hW
    have x0 := Ext.cell b0 0
    have x1 := Ext.cell b0 1
    have x2 := Ext.cell b0 2
    have y0 := Ext.cell b1 0
    have y1 := Ext.cell b1 1
    have y2 := Ext.cell b1 2
    have y3 := Ext.cell b1 3
    have y4 := Ext.cell b1 4
    have y5 := Ext.cell b1 5
    simp at x0 x1 x2 y0 y1 y2 y3 y4 y5
    refine wp_region_tail 12 hmx (by kernel_rfl) ?_
    simp only [List.take_succ_cons, List.take_zero, List.drop_succ_cons, List.drop_zero]
    repeat (go_big_quiet_step (fail))
    refine wpQuiet_nil ?_
    intro v
    have q2 := b2.later v.le
    obtain ⟨c0, c1, c2, f0, f1, f2⟩ := q2.row
    gi_wp2
  · have hBX := below_set3 (below_ext hB0 v) (show w.heap.size ≤ w.heap.size + 1 + 1 by omega) (I d0) (I b.x) (I b.a)
    obtain ⟨j0, j1, j2, _, _, _⟩ := (q2.set3 (I d0) (I b.x) (I b.a)).row
    go_wp2
    exact bodyPost_ret (v := A3 d0 b.x b.a) (by simp [results, Tryz.f52, go_sem, j0, j1, j2]) rfl ⟨rfl, hBX⟩
  · have hBX := below_set3 (below_ext hB0 v) (show w.heap.size ≤ w.heap.size + 1 + 1 by omega) (I d1) (I b.y) (I b.b)
    obtain ⟨j0, j1, j2, _, _, _⟩ := (q2.set3 (I d1) (I b.y) (I b.b)).row
    go_wp2
    exact bodyPost_ret (v := A3 d1 b.y b.b) (by simp [results, Tryz.f52, go_sem, j0, j1, j2]) rfl ⟨rfl, hBX⟩
  · have hBX := below_set3 (below_ext hB0 v) (show w.heap.size ≤ w.heap.size + 1 + 1 by omega) (I d2) (I b.z) (I b.c)
    obtain ⟨j0, j1, j2, _, _, _⟩ := (q2.set3 (I d2) (I b.z) (I b.c)).row
    go_wp2
    exact bodyPost_ret (v := A3 d2 b.z b.c) (by simp [results, Tryz.f52, go_sem, j0, j1, j2]) rfl ⟨rfl, hBX⟩

theorem side_any (d0 d1 d2 x y z a b c : Int) (k : Fin 3) (w : World) :
    Calls Tryz.prog 52 #[A3 d0 d1 d2, .agg #[I x, I y, I z, I a, I b, I c], I (axI k)] w fun e W' => e = .returned (A3 (dimAt d0 d1 d2 k) (dimAt x y z k) (dimAt a b c k)) ∧ Below w.heap.size w W' :=
  side_calls d0 d1 d2 ⟨x, y, z, a, b, c⟩ k w

end Go.Proofs.YtbobfhoimhambaaGreatDoor

/-
  box.along and the four closures that it is handed; box.check, of one box and of two.
-/
namespace Go.Proofs.YtbobfhoimhambaaGreatDoor
open Go.RowKit Go.Shelf

attribute [local go_sem] Oper.semAt_some ext_const

/-- A closure answers p of each axis, in every world that keeps what lay in w. -/
def Answers (f : FuncId) (caps : Array Value) (w : World) (p : Fin 3 → Bool) : Prop :=
  ∀ (x : Ext w) (k : Fin 3), Calls Tryz.prog f (#[I (axI k)] ++ caps) x.wd fun e W' => e = .returned (.bool (p k)) ∧ Below x.wd.heap.size x.wd W'

set_option maxRecDepth 100000 in
set_option maxHeartbeats 2000000 in
theorem along_ck {f : FuncId} {caps : Array Value} {p : Fin 3 → Bool} (w : World) (hf : f = 70 ∧ ∃ a b, caps = #[a, b]) (h : Answers f caps w p) :
    Calls Tryz.prog 69 #[.func (.func f) #[] caps] w fun e W' => e = .returned (.bool (p 0 && p 1 && p 2)) ∧ Below w.heap.size w W' := by
  have H : Hid (Answers f caps w p) := h
  clear h
  obtain ⟨rfl, a, b, rfl⟩ := hf
  all_goals
    go_enter Tryz.func69, Tryz.ntmps69
    go_wp2
    go_loopw [4] (fun i wr => ((i = .int .i64 0 ∧ True) ∨ (i = .int .i64 1 ∧ p 0 = true) ∨ (i = .int .i64 2 ∧ p 0 = true ∧ p 1 = true) ∨ (i = .int .i64 3 ∧ p 0 = true ∧ p 1 = true ∧ p 2 = true)) ∧ Below w.heap.size w wr) (fun i _ => 3 - (intOf i).toNat)
    case atStart => exact ⟨.inl ⟨rfl, trivial⟩, Below.refl _ _⟩
    case round =>
      obtain ⟨hi, hT⟩ := hrel
      rcases hi with ⟨rfl, _⟩ | ⟨rfl, h0⟩ | ⟨rfl, h0, h1⟩ | ⟨rfl, h0, h1, h2⟩
      · go_wp2_with fail
        refine (H.out ⟨wr, hT⟩ 0).mono ?_
        rintro e w1 ⟨rfl, hB⟩
        cases hp : p 0
        · go_wp2
          go_ret
          exact ⟨by simp [hp], then_below hT hB⟩
        · go_wp2
          go_roundw
          case rel => exact ⟨.inr (.inl ⟨rfl, hp⟩), then_below hT hB⟩
          case measure => simp [intOf]
      · go_wp2_with fail
        refine (H.out ⟨wr, hT⟩ 1).mono ?_
        rintro e w1 ⟨rfl, hB⟩
        cases hp : p 1
        · go_wp2
          go_ret
          exact ⟨by simp [hp], then_below hT hB⟩
        · go_wp2
          go_roundw
          case rel => exact ⟨.inr (.inr (.inl ⟨rfl, h0, hp⟩)), then_below hT hB⟩
          case measure => simp [intOf]
      · go_wp2_with fail
        refine (H.out ⟨wr, hT⟩ 2).mono ?_
        rintro e w1 ⟨rfl, hB⟩
        cases hp : p 2
        · go_wp2
          go_ret
          exact ⟨by simp [hp], then_below hT hB⟩
        · go_wp2
          go_roundw
          case rel => exact ⟨.inr (.inr (.inr ⟨rfl, h0, h1, hp⟩)), then_below hT hB⟩
          case measure => simp [intOf]
      · go_wp2
        go_ret
        exact ⟨by simp [h0, h1, h2], hT⟩

theorem ans_check {w : World} {D B : Nat} {d0 d1 d2 : Int} {b : Bx} (hd : Blk w D 23 #[I d0, I d1, I d2]) (hb : Blk w B 25 #[I b.x, I b.y, I b.z, I b.a, I b.b, I b.c]) :
    Answers 70 #[.pointer (some ⟨D, 0, none⟩), .pointer (some ⟨B, 0, none⟩)] w (fun k => maySB (dimAt d0 d1 d2 k) (bAt b k) (sAt b k)) := by
  intro x k
  obtain ⟨c0, c1, c2, hz⟩ := hd.three x.le
  obtain ⟨⟨k0, k1, k2⟩, ⟨k3, k4, k5⟩, hz1⟩ := hb.six x.le
  simp only [List.append_toArray, List.cons_append, List.nil_append]
  go_enter Tryz.func70, Tryz.ntmps70
  go_wp2_with fail
  refine (side_calls d0 d1 d2 b k _).mono ?_
  rintro e w1 ⟨rfl, hB1⟩
  go_wp2_with fail
  refine (maybe_calls _ _ _ _).mono ?_
  rintro e w2 ⟨rfl, hB2⟩
  go_wp2
  go_ret
  exact ⟨rfl, then_below hB1 hB2⟩

end Go.Proofs.YtbobfhoimhambaaGreatDoor

/-
  box.check, of one box and of two; box.Check: what each call answers.
-/
namespace Go.Proofs.YtbobfhoimhambaaGreatDoor
open Go.RowKit Go.Shelf

attribute [local go_sem] Oper.semAt_some ext_const

def codeOf (b : Bool) : Int := if b then 0 else 2

theorem chk_bad {d0 d1 d2 : Int} (v : Value) (w : World) (hm : ¬ mayD d0 d1 d2) :
    Calls Tryz.prog 49 #[A3 d0 d1 d2, v] w fun e W' => e = .returned (I 8) ∧ Below w.heap.size w W' := by
  go_enter Tryz.func49, Tryz.ntmps49
  go_wp2_with fail
  refine (check_no _ hm).mono ?_
  rintro e w1 ⟨rfl, hB⟩
  go_wp2
  go_ret
  exact ⟨rfl, then_below ((Below.refl _ w).alloc (Nat.le_refl _) _) hB⟩

/-- The calls of box.along in box.check. -/
theorem along_check {w : World} {D B : Nat} {d0 d1 d2 : Int} {b : Bx} (hd : Blk w D 23 #[I d0, I d1, I d2]) (hb : Blk w B 25 #[I b.x, I b.y, I b.z, I b.a, I b.b, I b.c]) :
    Calls Tryz.prog 69 #[.func (.func 70) #[] #[.pointer (some ⟨D, 0, none⟩), .pointer (some ⟨B, 0, none⟩)]] w fun e W' => e = .returned (.bool (mayBB d0 d1 d2 b)) ∧ Below w.heap.size w W' :=
  along_ck w ⟨rfl, _, _, rfl⟩ (ans_check hd hb)

set_option maxRecDepth 100000 in
set_option maxHeartbeats 2000000 in
theorem chk_one {d0 d1 d2 : Int} {b : Bx} (S : Nat) (w : World) (hm : mayD d0 d1 d2) (hS : Blk w S 25 #[I b.x, I b.y, I b.z, I b.a, I b.b, I b.c]) :
    Calls Tryz.prog 49 #[A3 d0 d1 d2, .slice (some ⟨S, 0, none⟩) 1 1] w fun e W' => e = .returned (I (codeOf (mayBB d0 d1 d2 b))) ∧ Below w.heap.size w W' := by
  go_enter Tryz.func49, Tryz.ntmps49
  go_wp2_with fail
  have hB0 : Below w.heap.size w (w.alloc (.cells #[I d0, I d1, I d2] 23)) := (Below.refl _ w).alloc (Nat.le_refl _) _
  have b0 := Blk.new w 23 #[I d0, I d1, I d2]
  have b1 := hS.later hB0
  generalize w.alloc (.cells #[I d0, I d1, I d2] 23) = W at *
  refine (check_yes _ hm).mono ?_
  rintro e w1 ⟨rfl, hT⟩
  go_wp2_with fail
  go_loopw [16] (fun i wr => ((i = .int .i64 0) ∨ (i = .int .i64 1 ∧ mayBB d0 d1 d2 b = true)) ∧ Below W.heap.size W wr) (fun i _ => 1 - (intOf i).toNat)
  case atStart => exact ⟨.inl rfl, hT⟩
  case round =>
    obtain ⟨hi, hT⟩ := hrel
    rcases hi with rfl | ⟨rfl, h0⟩
    · obtain ⟨⟨k0, k1, k2⟩, ⟨k3, k4, k5⟩, hz1⟩ := b1.six hT
      go_wp2_with fail
      have q0 := (b0.later hT).alloc (.cells #[I b.x, I b.y, I b.z, I b.a, I b.b, I b.c] 25)
      have q1 := Blk.new wr 25 #[I b.x, I b.y, I b.z, I b.a, I b.b, I b.c]
      have hT := then_alloc hT (.cells #[I b.x, I b.y, I b.z, I b.a, I b.b, I b.c] 25)
      refine (along_check q0 q1).mono ?_
      rintro e w2 ⟨rfl, hB⟩
      cases hp : mayBB d0 d1 d2 b
      · go_wp2
        go_ret
        exact ⟨by simp [codeOf, hp], then_below hB0 (then_below hT hB)⟩
      · go_wp2
        go_roundw
        case rel => exact ⟨.inr ⟨rfl, hp⟩, then_below hT hB⟩
        case measure => simp [intOf]
    · go_wp2
      go_ret
      exact ⟨by simp [codeOf, h0], then_below hB0 hT⟩

set_option maxRecDepth 100000 in
set_option maxHeartbeats 2000000 in
theorem chk_two {d0 d1 d2 : Int} {a b : Bx} (S : Nat) (w : World) (hm : mayD d0 d1 d2) (hS : Blk w S 25 #[I a.x, I a.y, I a.z, I a.a, I a.b, I a.c, I b.x, I b.y, I b.z, I b.a, I b.b, I b.c]) :
    Calls Tryz.prog 49 #[A3 d0 d1 d2, .slice (some ⟨S, 0, none⟩) 2 2] w fun e W' => e = .returned (I (codeOf (mayBB d0 d1 d2 a && mayBB d0 d1 d2 b))) ∧ Below w.heap.size w W' := by
  go_enter Tryz.func49, Tryz.ntmps49
  go_wp2_with fail
  have hB0 : Below w.heap.size w (w.alloc (.cells #[I d0, I d1, I d2] 23)) := (Below.refl _ w).alloc (Nat.le_refl _) _
  have b0 := Blk.new w 23 #[I d0, I d1, I d2]
  have b1 := hS.later hB0
  generalize w.alloc (.cells #[I d0, I d1, I d2] 23) = W at *
  refine (check_yes _ hm).mono ?_
  rintro e w1 ⟨rfl, hT⟩
  go_wp2_with fail
  go_loopw [16] (fun i wr => ((i = .int .i64 0) ∨ (i = .int .i64 1 ∧ mayBB d0 d1 d2 a = true) ∨ (i = .int .i64 2 ∧ mayBB d0 d1 d2 a = true ∧ mayBB d0 d1 d2 b = true)) ∧ Below W.heap.size W wr) (fun i _ => 2 - (intOf i).toNat)
  case atStart => exact ⟨.inl rfl, hT⟩
  case round =>
    obtain ⟨hi, hT⟩ := hrel
    have r1 := b1.later hT
    rcases hi with rfl | ⟨rfl, h0⟩ | ⟨rfl, h0, h1⟩
    · have k0 := r1.cell 0
      have k1 := r1.cell 1
      have k2 := r1.cell 2
      have k3 := r1.cell 3
      have k4 := r1.cell 4
      have k5 := r1.cell 5
      simp at k0 k1 k2 k3 k4 k5
      go_wp2_with fail
      have q0 := (b0.later hT).alloc (.cells #[I a.x, I a.y, I a.z, I a.a, I a.b, I a.c] 25)
      have q1 := Blk.new wr 25 #[I a.x, I a.y, I a.z, I a.a, I a.b, I a.c]
      have hT := then_alloc hT (.cells #[I a.x, I a.y, I a.z, I a.a, I a.b, I a.c] 25)
      refine (along_check q0 q1).mono ?_
      rintro e w2 ⟨rfl, hB⟩
      cases hp : mayBB d0 d1 d2 a
      · go_wp2
        go_ret
        exact ⟨by simp [codeOf, hp], then_below hB0 (then_below hT hB)⟩
      · go_wp2
        go_roundw
        case rel => exact ⟨.inr (.inl ⟨rfl, hp⟩), then_below hT hB⟩
        case measure => simp [intOf]
    · have k0 := r1.cell 6
      have k1 := r1.cell 7
      have k2 := r1.cell 8
      have k3 := r1.cell 9
      have k4 := r1.cell 10
      have k5 := r1.cell 11
      simp at k0 k1 k2 k3 k4 k5
      go_wp2_with fail
      have q0 := (b0.later hT).alloc (.cells #[I b.x, I b.y, I b.z, I b.a, I b.b, I b.c] 25)
      have q1 := Blk.new wr 25 #[I b.x, I b.y, I b.z, I b.a, I b.b, I b.c]
      have hT := then_alloc hT (.cells #[I b.x, I b.y, I b.z, I b.a, I b.b, I b.c] 25)
      refine (along_check q0 q1).mono ?_
      rintro e w2 ⟨rfl, hB⟩
      cases hp : mayBB d0 d1 d2 b
      · go_wp2
        go_ret
        exact ⟨by simp [codeOf, hp], then_below hB0 (then_below hT hB)⟩
      · go_wp2
        go_roundw
        case rel => exact ⟨.inr (.inr ⟨rfl, h0, hp⟩), then_below hT hB⟩
        case measure => simp [intOf]
    · go_wp2
      go_ret
      exact ⟨by simp [codeOf, h0, h1], then_below hB0 hT⟩

/-- The error of a box. -/
def errB (d0 d1 d2 : Int) (b : Bx) : Int := if okDB d0 d1 d2 then codeOf (mayBB d0 d1 d2 b) else 8
def errB2 (d0 d1 d2 : Int) (a b : Bx) : Int := if okDB d0 d1 d2 then codeOf (mayBB d0 d1 d2 a && mayBB d0 d1 d2 b) else 8

theorem chk1 {d0 d1 d2 : Int} {b : Bx} (S : Nat) (w : World) (hS : Blk w S 25 #[I b.x, I b.y, I b.z, I b.a, I b.b, I b.c]) :
    Calls Tryz.prog 49 #[A3 d0 d1 d2, .slice (some ⟨S, 0, none⟩) 1 1] w fun e W' => e = .returned (I (errB d0 d1 d2 b)) ∧ Below w.heap.size w W' := by
  by_cases hm : mayD d0 d1 d2
  · rw [errB, if_pos ((okDB_iff _ _ _).2 hm)]; exact chk_one S w hm hS
  · rw [errB, if_neg (by rw [okDB_iff]; exact hm)]; exact chk_bad _ w hm
theorem chk2 {d0 d1 d2 : Int} {a b : Bx} (S : Nat) (w : World) (hS : Blk w S 25 #[I a.x, I a.y, I a.z, I a.a, I a.b, I a.c, I b.x, I b.y, I b.z, I b.a, I b.b, I b.c]) :
    Calls Tryz.prog 49 #[A3 d0 d1 d2, .slice (some ⟨S, 0, none⟩) 2 2] w fun e W' => e = .returned (I (errB2 d0 d1 d2 a b)) ∧ Below w.heap.size w W' := by
  by_cases hm : mayD d0 d1 d2
  · rw [errB2, if_pos ((okDB_iff _ _ _).2 hm)]; exact chk_two S w hm hS
  · rw [errB2, if_neg (by rw [okDB_iff]; exact hm)]; exact chk_bad _ w hm

end Go.Proofs.YtbobfhoimhambaaGreatDoor

/-
  Plain arithmetic: steps on a torus add up, lead round, and do not hang on each other; how far midplanes are apart. No program is named here.
-/
namespace Go.Proofs.YtbobfhoimhambaaGreatDoor
open Go.RowKit

/-- What a step makes of the coordinates. -/
theorem on_coords {d0 d1 d2 m : Int} (h : mayD d0 d1 d2) (hm : 0 ≤ m ∧ m < d0 * d1 * d2) (k : Fin 3) (n : Int) :
    (0 ≤ onD d0 d1 d2 m k n ∧ onD d0 d1 d2 m k n < d0 * d1 * d2) ∧
    cx d0 (onD d0 d1 d2 m k n) = (if k = 0 then (cx d0 m + n) % d0 else cx d0 m) ∧
    cy d0 d1 (onD d0 d1 d2 m k n) = (if k = 1 then (cy d0 d1 m + n) % d1 else cy d0 d1 m) ∧
    cz d0 d1 (onD d0 d1 d2 m k n) = (if k = 2 then (cz d0 d1 m + n) % d2 else cz d0 d1 m) := by
  obtain ⟨i0, i1, i2⟩ := inD_on h hm n
  match k with
  | 0 => exact node_of_in h i0
  | 1 => exact node_of_in h i1
  | 2 => exact node_of_in h i2
theorem on_node {d0 d1 d2 m : Int} (h : mayD d0 d1 d2) (hm : 0 ≤ m ∧ m < d0 * d1 * d2) (k : Fin 3) (n : Int) : 0 ≤ onD d0 d1 d2 m k n ∧ onD d0 d1 d2 m k n < d0 * d1 * d2 := (on_coords h hm k n).1

/-- Midplanes with the same coordinates are one. -/
theorem node_ext {d0 d1 m n : Int} (hx : cx d0 m = cx d0 n) (hy : cy d0 d1 m = cy d0 d1 n) (hz : cz d0 d1 m = cz d0 d1 n) : m = n := by
  rw [← num_of_node (d0 := d0) (d1 := d1) (m := m), hx, hy, hz, num_of_node]

theorem on_on {d0 d1 d2 m : Int} (h : mayD d0 d1 d2) (hm : 0 ≤ m ∧ m < d0 * d1 * d2) (k : Fin 3) (a b : Int) : onD d0 d1 d2 (onD d0 d1 d2 m k a) k b = onD d0 d1 d2 m k (a + b) := by
  obtain ⟨n1, x1, y1, z1⟩ := on_coords h hm k a
  obtain ⟨_, x2, y2, z2⟩ := on_coords h n1 k b
  obtain ⟨_, x3, y3, z3⟩ := on_coords h hm k (a + b)
  refine node_ext (d0 := d0) (d1 := d1) ?_ ?_ ?_
  · rw [x2, x3, x1]; split
    · rw [Int.emod_add_emod, Int.add_assoc]
    · rfl
  · rw [y2, y3, y1]; split
    · rw [Int.emod_add_emod, Int.add_assoc]
    · rfl
  · rw [z2, z3, z1]; split
    · rw [Int.emod_add_emod, Int.add_assoc]
    · rfl
theorem on_comm {d0 d1 d2 m : Int} (h : mayD d0 d1 d2) (hm : 0 ≤ m ∧ m < d0 * d1 * d2) (j k : Fin 3) (a b : Int) : onD d0 d1 d2 (onD d0 d1 d2 m j a) k b = onD d0 d1 d2 (onD d0 d1 d2 m k b) j a := by
  by_cases hjk : j = k
  · subst hjk; rw [on_on h hm, on_on h hm, Int.add_comm]
  · obtain ⟨n1, x1, y1, z1⟩ := on_coords h hm j a
    obtain ⟨_, x2, y2, z2⟩ := on_coords h n1 k b
    obtain ⟨n3, x3, y3, z3⟩ := on_coords h hm k b
    obtain ⟨_, x4, y4, z4⟩ := on_coords h n3 j a
    refine node_ext (d0 := d0) (d1 := d1) ?_ ?_ ?_
    · rw [x2, x4, x1, x3]
      by_cases e : j = 0
      · by_cases e' : k = 0
        · exact absurd (e.trans e'.symm) hjk
        · simp [e, e']
      · by_cases e' : k = 0 <;> simp [e, e']
    · rw [y2, y4, y1, y3]
      by_cases e : j = 1
      · by_cases e' : k = 1
        · exact absurd (e.trans e'.symm) hjk
        · simp [e, e']
      · by_cases e' : k = 1 <;> simp [e, e']
    · rw [z2, z4, z1, z3]
      by_cases e : j = 2
      · by_cases e' : k = 2
        · exact absurd (e.trans e'.symm) hjk
        · simp [e, e']
      · by_cases e' : k = 2 <;> simp [e, e']
theorem on_round {d0 d1 d2 m : Int} (h : mayD d0 d1 d2) (hm : 0 ≤ m ∧ m < d0 * d1 * d2) (k : Fin 3) (n : Int) (hn : n = 0 ∨ n = dimAt d0 d1 d2 k) : onD d0 d1 d2 m k n = m := by
  obtain ⟨ix, iy, iz⟩ := inD_of_node h hm
  obtain ⟨_, x1, y1, z1⟩ := on_coords h hm k n
  have e : ∀ c d : Int, 0 ≤ c → c < d → n = 0 ∨ n = d → (c + n) % d = c := by
    intro c d h1 h2 h3
    rcases h3 with h3 | h3
    · rw [h3, Int.add_zero, Int.emod_eq_of_lt h1 h2]
    · rw [h3, Int.add_emod_right, Int.emod_eq_of_lt h1 h2]
  refine node_ext (d0 := d0) (d1 := d1) ?_ ?_ ?_
  · rw [x1]; split
    · rename_i hk; subst hk; exact e _ _ ix.1 ix.2 hn
    · rfl
  · rw [y1]; split
    · rename_i hk; subst hk; exact e _ _ iy.1 iy.2 hn
    · rfl
  · rw [z1]; split
    · rename_i hk; subst hk; exact e _ _ iz.1 iz.2 hn
    · rfl

/-- How far apart on a ring, said without a remainder. -/
theorem ring_eq {n p q : Int} (hp : 0 ≤ p ∧ p < n) (hq : 0 ≤ q ∧ q < n) :
    (p ≤ q ∧ ((q - p ≤ n - (q - p) ∧ ring n p q = q - p) ∨ (n - (q - p) < q - p ∧ ring n p q = n - (q - p)))) ∨
    (q < p ∧ ((q - p + n ≤ p - q ∧ ring n p q = q - p + n) ∨ (p - q < q - p + n ∧ ring n p q = p - q))) := by
  have e : (q - p) % n = if p ≤ q then q - p else q - p + n := by
    split
    · exact Int.emod_eq_of_lt (by omega) (by omega)
    · rw [← Int.add_emod_right]; exact Int.emod_eq_of_lt (by omega) (by omega)
  unfold ring minI
  by_cases h : p ≤ q
  · rw [if_pos h] at e
    rw [e]
    by_cases h' : n - (q - p) < q - p
    · rw [if_pos h']; omega
    · rw [if_neg h']; omega
  · rw [if_neg h] at e
    rw [e]
    by_cases h' : n - (q - p + n) < q - p + n
    · rw [if_pos h']; omega
    · rw [if_neg h']; omega
theorem ring_sym {n p q : Int} (hp : 0 ≤ p ∧ p < n) (hq : 0 ≤ q ∧ q < n) : ring n p q = ring n q p := by
  have a := ring_eq hp hq
  have b := ring_eq hq hp
  omega
theorem ring_pos {n p q : Int} (hp : 0 ≤ p ∧ p < n) (hq : 0 ≤ q ∧ q < n) : 0 ≤ ring n p q ∧ (ring n p q = 0 ↔ p = q) := by
  have a := ring_eq hp hq
  omega
theorem ring_tri {n p q r : Int} (hp : 0 ≤ p ∧ p < n) (hq : 0 ≤ q ∧ q < n) (hr : 0 ≤ r ∧ r < n) : ring n p r ≤ ring n p q + ring n q r := by
  have a := ring_eq hp hq
  have b := ring_eq hq hr
  have c := ring_eq hp hr
  omega
theorem ring_step {n p : Int} (hp : 0 ≤ p ∧ p < n) : ring n p ((p + 1) % n) = if 1 < n then 1 else 0 := by
  have e : (p + 1) % n = if p + 1 < n then p + 1 else 0 := by
    split
    · exact Int.emod_eq_of_lt (by omega) (by omega)
    · have : p + 1 = n := by omega
      rw [this, Int.emod_self]
  have hb : 0 ≤ (p + 1) % n ∧ (p + 1) % n < n := ⟨Int.emod_nonneg _ (by omega), Int.emod_lt_of_pos _ (by omega)⟩
  have a := ring_eq hp hb
  generalize (p + 1) % n = q at *
  split <;> split at e <;> omega
theorem ring_self {n p : Int} (hp : 0 ≤ p ∧ p < n) : ring n p p = 0 := (ring_pos hp hp).2.2 rfl

theorem far_bd {d0 d1 d2 : Int} (h : mayD d0 d1 d2) (a b : Int) : 0 ≤ farD d0 d1 d2 a b ∧ farD d0 d1 d2 a b ≤ 48 := by
  obtain ⟨h0, h1, h2⟩ := h
  unfold okD at h0 h1 h2
  have x := ring_bd (p := cx d0 a) (q := cx d0 b) h0.1 h0.2
  have y := ring_bd (p := cy d0 d1 a) (q := cy d0 d1 b) h1.1 h1.2
  have z := ring_bd (p := cz d0 d1 a) (q := cz d0 d1 b) h2.1 h2.2
  unfold farD
  omega
theorem far_sym {d0 d1 d2 a b : Int} (h : mayD d0 d1 d2) (ha : 0 ≤ a ∧ a < d0 * d1 * d2) (hb : 0 ≤ b ∧ b < d0 * d1 * d2) : farD d0 d1 d2 a b = farD d0 d1 d2 b a := by
  obtain ⟨a0, a1, a2⟩ := inD_of_node h ha
  obtain ⟨b0, b1, b2⟩ := inD_of_node h hb
  unfold farD
  rw [ring_sym a0 b0, ring_sym a1 b1, ring_sym a2 b2]
theorem far_zero {d0 d1 d2 a b : Int} (h : mayD d0 d1 d2) (ha : 0 ≤ a ∧ a < d0 * d1 * d2) (hb : 0 ≤ b ∧ b < d0 * d1 * d2) : farD d0 d1 d2 a b = 0 ↔ a = b := by
  obtain ⟨a0, a1, a2⟩ := inD_of_node h ha
  obtain ⟨b0, b1, b2⟩ := inD_of_node h hb
  have x := ring_pos a0 b0
  have y := ring_pos a1 b1
  have z := ring_pos a2 b2
  constructor
  · intro hf
    unfold farD at hf
    exact node_ext (d0 := d0) (d1 := d1) (x.2.1 (by omega)) (y.2.1 (by omega)) (z.2.1 (by omega))
  · intro e
    subst e
    unfold farD
    rw [ring_self a0, ring_self a1, ring_self a2]; rfl
theorem far_tri {d0 d1 d2 a b c : Int} (h : mayD d0 d1 d2) (ha : 0 ≤ a ∧ a < d0 * d1 * d2) (hb : 0 ≤ b ∧ b < d0 * d1 * d2) (hc : 0 ≤ c ∧ c < d0 * d1 * d2) :
    farD d0 d1 d2 a c ≤ farD d0 d1 d2 a b + farD d0 d1 d2 b c := by
  obtain ⟨a0, a1, a2⟩ := inD_of_node h ha
  obtain ⟨b0, b1, b2⟩ := inD_of_node h hb
  obtain ⟨c0, c1, c2⟩ := inD_of_node h hc
  have x := ring_tri a0 b0 c0
  have y := ring_tri a1 b1 c1
  have z := ring_tri a2 b2 c2
  unfold farD
  omega
theorem far_on {d0 d1 d2 a : Int} (h : mayD d0 d1 d2) (ha : 0 ≤ a ∧ a < d0 * d1 * d2) (k : Fin 3) : farD d0 d1 d2 a (onD d0 d1 d2 a k 1) = if 1 < dimAt d0 d1 d2 k then 1 else 0 := by
  obtain ⟨a0, a1, a2⟩ := inD_of_node h ha
  obtain ⟨_, x1, y1, z1⟩ := on_coords h ha k 1
  unfold farD
  rw [x1, y1, z1]
  match k with
  | 0 => simp [ring_step a0, ring_self a1, ring_self a2, dimAt]; rfl
  | 1 => simp [ring_step a1, ring_self a0, ring_self a2, dimAt]; rfl
  | 2 => simp [ring_step a2, ring_self a0, ring_self a1, dimAt]; rfl

/-- Some steps on or back, no more than the way: just the whole way leads there. -/
theorem ring_hit {n p q j : Int} (hp : 0 ≤ p ∧ p < n) (hq : 0 ≤ q ∧ q < n) (h0 : 0 ≤ j) (hj : j ≤ ring n p q) : (j < ring n p q ↔ ((p + j) % n ≠ q ∧ (p + -j) % n ≠ q)) := by
  have a := ring_eq hp hq
  have hle : ring n p q ≤ n := by omega
  have e1 : (p + j) % n = p + j ∨ (p + j) % n = p + j - n := by
    rcases Int.lt_or_le (p + j) n with h | h
    · exact .inl (Int.emod_eq_of_lt (by omega) h)
    · right
      rw [← Int.sub_emod_right]
      exact Int.emod_eq_of_lt (by omega) (by omega)
  have e2 : (p + -j) % n = p + -j ∨ (p + -j) % n = p + -j + n := by
    rcases Int.lt_or_le (p + -j) 0 with h | h
    · right
      rw [← Int.add_emod_right]
      exact Int.emod_eq_of_lt (by omega) (by omega)
    · exact .inl (Int.emod_eq_of_lt h (by omega))
  have b1 : 0 ≤ (p + j) % n ∧ (p + j) % n < n := ⟨Int.emod_nonneg _ (by omega), Int.emod_lt_of_pos _ (by omega)⟩
  have b2 : 0 ≤ (p + -j) % n ∧ (p + -j) % n < n := ⟨Int.emod_nonneg _ (by omega), Int.emod_lt_of_pos _ (by omega)⟩
  generalize (p + j) % n = u at *
  generalize (p + -j) % n = v at *
  generalize ring n p q = r at *
  constructor
  · intro h; constructor <;> omega
  · rintro ⟨h1, h2⟩
    rcases Int.lt_or_le j r with h | h
    · exact h
    · omega

end Go.Proofs.YtbobfhoimhambaaGreatDoor

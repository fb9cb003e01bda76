/-
  box's sides: sideOf, mayBe, after, has, meets, within: what each call answers; nothing that lay before is turned.
-/
import Derived.Test.YtldcagjnngkabaaGreatDoorPart17
import Derived.Test.YtldcagjnngkabaaGreatDoorPart12
import Derived.Test.YtldcagjnngkabaaGreatDoorPart1
namespace Go.Proofs.YtldcagjnngkabaaGreatDoor
open Go.RowKit Go.Shelf

attribute [local go_sem] Oper.semAt_some ext_const

/-- What a later world has in a box's block. -/
theorem Blk.six {W W' : World} {B : Nat} {t : TypeId} {a b c d e f : Int} (h : Blk W B t #[I a, I b, I c, I d, I e, I f]) (hb : Below W.heap.size W W') :
    (W'.cell? ⟨B, 0, none⟩ = some (I a) ∧ W'.cell? ⟨B, 1, none⟩ = some (I b) ∧ W'.cell? ⟨B, 2, none⟩ = some (I c)) ∧ (W'.cell? ⟨B, 3, none⟩ = some (I d) ∧ W'.cell? ⟨B, 4, none⟩ = some (I e) ∧ W'.cell? ⟨B, 5, none⟩ = some (I f)) ∧ B < W'.heap.size :=
  ⟨⟨(h.later hb).cell 0, (h.later hb).cell 1, (h.later hb).cell 2⟩, ⟨(h.later hb).cell 3, (h.later hb).cell 4, (h.later hb).cell 5⟩, (h.later hb).lt⟩

theorem after_calls {r b k : Int} (s : Int) (w : World) (hr : r ≤ 16) (hb : 0 ≤ b ∧ b < r) (hk : 0 ≤ k ∧ k < r) :
    Calls Tryz.prog 197 #[A3 r b s, I k] w fun e W' => e = .returned (I (aft r b k)) ∧ Below w.heap.size w W' := by
  have HR : Hid ((k - b + r) % r = aft r b k) := aft_rem hb hk
  obtain ⟨b0, b1⟩ := hb
  obtain ⟨k0, k1⟩ := hk
  go_enter Tryz.func197, Tryz.ntmps197
  go_wp2
  go_ret
  rw [HR.out]
  exact ⟨rfl, (Below.refl _ w).alloc (Nat.le_refl _) _⟩

theorem has_calls {r b k : Int} (s : Int) (w : World) (hr : r ≤ 16) (hb : 0 ≤ b ∧ b < r) (hk : 0 ≤ k ∧ k < r) :
    Calls Tryz.prog 179 #[A3 r b s, I k] w fun e W' => e = .returned (.bool (hasS r b s k)) ∧ Below w.heap.size w W' := by
  have hmx : Tryz.prog.follows .mixedOrders = true := by kernel_rfl
  go_enter Tryz.func179, Tryz.ntmps179
  go_wp2
  have b0 := Blk.new w 208 #[I r, I b, I s]
  have x0 := Ext.cell b0 0
  have x1 := Ext.cell b0 1
  have x2 := Ext.cell b0 2
  simp at x0 x1 x2
  have hT : Below w.heap.size w (w.alloc (.cells #[I r, I b, I s] 208)) := (Below.refl _ w).alloc (Nat.le_refl _) _
  refine wp_region_look hmx (by kernel_rfl) ?_
  repeat (go_big_quiet_step ((go_at_call 197; exact calls_ext (after_calls s _ hr hb hk))))
  refine wpQuiet_nil ?_
  intro v
  go_wp2
  go_ret
  exact ⟨rfl, then_below hT v.le⟩

theorem maybe_calls (r b s : Int) (w : World) :
    Calls Tryz.prog 178 #[A3 r b s] w fun e W' => e = .returned (.bool (maySB r b s)) ∧ Below w.heap.size w W' := by
  go_enter Tryz.func178, Tryz.ntmps178
  go_wp2
  all_goals
    go_ret
    refine ⟨?_, (Below.refl _ w).alloc (Nat.le_refl _) _⟩
    simp [maySB, *]
    try omega

theorem three_start (w : World) (u0 u1 u2 : Array Value) (t0 t1 t2 : TypeId) :
    ∃ W : World, ((w.alloc (.cells u0 t0)).alloc (.cells u1 t1)).alloc (.cells u2 t2) = W ∧ W.heap.size = w.heap.size + 3 ∧ Below w.heap.size w W ∧ Blk W w.heap.size t0 u0 ∧ Blk W (w.heap.size + 1) t1 u1 ∧ Blk W (w.heap.size + 1 + 1) t2 u2 := by
  obtain ⟨W, hW, hB, b0, b1⟩ := two_start w u0 u1 t0 t1
  refine ⟨_, rfl, by simp, ?_, ?_, ?_, ?_⟩
  · rw [hW]; exact then_alloc hB _
  · rw [hW]; exact b0.alloc _
  · rw [hW]; exact b1.alloc _
  · have := Blk.new ((w.alloc (.cells u0 t0)).alloc (.cells u1 t1)) t2 u2; simpa using this

set_option maxHeartbeats 1000000 in
theorem side_calls (d0 d1 d2 : Int) (b : Bx) (k : Fin 3) (w : World) :
    Calls Tryz.prog 158 #[A3 d0 d1 d2, B6 b, I (axI k)] w fun e W' => e = .returned (A3 (dimAt d0 d1 d2 k) (bAt b k) (sAt b k)) ∧ Below w.heap.size w W' := by
  have hmx : Tryz.prog.follows .mixedOrders = true := by kernel_rfl
  rcases fin3 k with rfl | rfl | rfl
  all_goals
    simp only [axI, bAt, sAt, dimAt]
    go_enter Tryz.func158, Tryz.ntmps158
    go_wp2
    obtain ⟨W, hW, hs, hB0, b0, b1, b2⟩ := three_start w #[I d0, I d1, I d2] #[I b.x, I b.y, I b.z, I b.a, I b.b, I b.c] #[I 0, I 0, I 0] 23 40 208
    rw [hW]
    clear hW
    have x0 := Ext.cell b0 0
    have x1 := Ext.cell b0 1
    have x2 := Ext.cell b0 2
    have y0 := Ext.cell b1 0
    have y1 := Ext.cell b1 1
    have y2 := Ext.cell b1 2
    have y3 := Ext.cell b1 3
    have y4 := Ext.cell b1 4
    have y5 := Ext.cell b1 5
    simp at x0 x1 x2 y0 y1 y2 y3 y4 y5
    refine wp_region_tail 12 hmx (by kernel_rfl) ?_
    simp only [List.take_succ_cons, List.take_zero, List.drop_succ_cons, List.drop_zero]
    repeat (go_big_quiet_step (fail))
    refine wpQuiet_nil ?_
    intro v
    have q2 := b2.later v.le
    obtain ⟨c0, c1, c2, f0, f1, f2⟩ := q2.row
    gi_wp2
  · have hBX := below_set3 (below_ext hB0 v) (show w.heap.size ≤ w.heap.size + 1 + 1 by omega) (I d0) (I b.x) (I b.a)
    obtain ⟨j0, j1, j2, _, _, _⟩ := (q2.set3 (I d0) (I b.x) (I b.a)).row
    go_wp2
    exact bodyPost_ret (v := A3 d0 b.x b.a) (by simp [results, Tryz.f158, go_sem, j0, j1, j2]) rfl ⟨rfl, hBX⟩
  · have hBX := below_set3 (below_ext hB0 v) (show w.heap.size ≤ w.heap.size + 1 + 1 by omega) (I d1) (I b.y) (I b.b)
    obtain ⟨j0, j1, j2, _, _, _⟩ := (q2.set3 (I d1) (I b.y) (I b.b)).row
    go_wp2
    exact bodyPost_ret (v := A3 d1 b.y b.b) (by simp [results, Tryz.f158, go_sem, j0, j1, j2]) rfl ⟨rfl, hBX⟩
  · have hBX := below_set3 (below_ext hB0 v) (show w.heap.size ≤ w.heap.size + 1 + 1 by omega) (I d2) (I b.z) (I b.c)
    obtain ⟨j0, j1, j2, _, _, _⟩ := (q2.set3 (I d2) (I b.z) (I b.c)).row
    go_wp2
    exact bodyPost_ret (v := A3 d2 b.z b.c) (by simp [results, Tryz.f158, go_sem, j0, j1, j2]) rfl ⟨rfl, hBX⟩

theorem side_any (d0 d1 d2 x y z a b c : Int) (k : Fin 3) (w : World) :
    Calls Tryz.prog 158 #[A3 d0 d1 d2, .agg #[I x, I y, I z, I a, I b, I c], I (axI k)] w fun e W' => e = .returned (A3 (dimAt d0 d1 d2 k) (dimAt x y z k) (dimAt a b c k)) ∧ Below w.heap.size w W' :=
  side_calls d0 d1 d2 ⟨x, y, z, a, b, c⟩ k w

end Go.Proofs.YtldcagjnngkabaaGreatDoor

/-
  box.along and the four closures that it is handed; box.check, of one box and of two.
-/
namespace Go.Proofs.YtldcagjnngkabaaGreatDoor
open Go.RowKit Go.Shelf

attribute [local go_sem] Oper.semAt_some ext_const

/-- A closure answers p of each axis, in every world that keeps what lay in w. -/
def Answers (f : FuncId) (caps : Array Value) (w : World) (p : Fin 3 → Bool) : Prop :=
  ∀ (x : Ext w) (k : Fin 3), Calls Tryz.prog f (#[I (axI k)] ++ caps) x.wd fun e W' => e = .returned (.bool (p k)) ∧ Below x.wd.heap.size x.wd W'

set_option maxRecDepth 100000 in
set_option maxHeartbeats 2000000 in
theorem along_ck {f : FuncId} {caps : Array Value} {p : Fin 3 → Bool} (w : World) (hf : f = 177 ∧ ∃ a b, caps = #[a, b]) (h : Answers f caps w p) :
    Calls Tryz.prog 176 #[.func (.func f) #[] caps] w fun e W' => e = .returned (.bool (p 0 && p 1 && p 2)) ∧ Below w.heap.size w W' := by
  have H : Hid (Answers f caps w p) := h
  clear h
  obtain ⟨rfl, a, b, rfl⟩ := hf
  all_goals
    go_enter Tryz.func176, Tryz.ntmps176
    go_wp2
    go_loopw [4] (fun i wr => ((i = .int .i64 0 ∧ True) ∨ (i = .int .i64 1 ∧ p 0 = true) ∨ (i = .int .i64 2 ∧ p 0 = true ∧ p 1 = true) ∨ (i = .int .i64 3 ∧ p 0 = true ∧ p 1 = true ∧ p 2 = true)) ∧ Below w.heap.size w wr) (fun i _ => 3 - (RowKit.intOf i).toNat)
    case atStart => exact ⟨.inl ⟨rfl, trivial⟩, Below.refl _ _⟩
    case round =>
      obtain ⟨hi, hT⟩ := hrel
      rcases hi with ⟨rfl, _⟩ | ⟨rfl, h0⟩ | ⟨rfl, h0, h1⟩ | ⟨rfl, h0, h1, h2⟩
      · go_wp2_with fail
        refine (H.out ⟨wr, hT⟩ 0).mono ?_
        rintro e w1 ⟨rfl, hB⟩
        cases hp : p 0
        · go_wp2
          go_ret
          exact ⟨by simp [hp], then_below hT hB⟩
        · go_wp2
          go_roundw
          case rel => exact ⟨.inr (.inl ⟨rfl, hp⟩), then_below hT hB⟩
          case measure => simp [RowKit.intOf]
      · go_wp2_with fail
        refine (H.out ⟨wr, hT⟩ 1).mono ?_
        rintro e w1 ⟨rfl, hB⟩
        cases hp : p 1
        · go_wp2
          go_ret
          exact ⟨by simp [hp], then_below hT hB⟩
        · go_wp2
          go_roundw
          case rel => exact ⟨.inr (.inr (.inl ⟨rfl, h0, hp⟩)), then_below hT hB⟩
          case measure => simp [RowKit.intOf]
      · go_wp2_with fail
        refine (H.out ⟨wr, hT⟩ 2).mono ?_
        rintro e w1 ⟨rfl, hB⟩
        cases hp : p 2
        · go_wp2
          go_ret
          exact ⟨by simp [hp], then_below hT hB⟩
        · go_wp2
          go_roundw
          case rel => exact ⟨.inr (.inr (.inr ⟨rfl, h0, h1, hp⟩)), then_below hT hB⟩
          case measure => simp [RowKit.intOf]
      · go_wp2
        go_ret
        exact ⟨by simp [h0, h1, h2], hT⟩

theorem ans_check {w : World} {D B : Nat} {d0 d1 d2 : Int} {b : Bx} (hd : Blk w D 23 #[I d0, I d1, I d2]) (hb : Blk w B 40 #[I b.x, I b.y, I b.z, I b.a, I b.b, I b.c]) :
    Answers 177 #[.pointer (some ⟨D, 0, none⟩), .pointer (some ⟨B, 0, none⟩)] w (fun k => maySB (dimAt d0 d1 d2 k) (bAt b k) (sAt b k)) := by
  intro x k
  obtain ⟨c0, c1, c2, hz⟩ := hd.three x.le
  obtain ⟨⟨k0, k1, k2⟩, ⟨k3, k4, k5⟩, hz1⟩ := hb.six x.le
  simp only [List.append_toArray, List.cons_append, List.nil_append]
  go_enter Tryz.func177, Tryz.ntmps177
  go_wp2_with fail
  refine (side_calls d0 d1 d2 b k _).mono ?_
  rintro e w1 ⟨rfl, hB1⟩
  go_wp2_with fail
  refine (maybe_calls _ _ _ _).mono ?_
  rintro e w2 ⟨rfl, hB2⟩
  go_wp2
  go_ret
  exact ⟨rfl, then_below hB1 hB2⟩

end Go.Proofs.YtldcagjnngkabaaGreatDoor

/-
  box.check, of one box and of two; box.Check: what each call answers.
-/
namespace Go.Proofs.YtldcagjnngkabaaGreatDoor
open Go.RowKit Go.Shelf

attribute [local go_sem] Oper.semAt_some ext_const

def codeOf (b : Bool) : Int := if b then 0 else 2

theorem chk_bad {d0 d1 d2 : Int} (v : Value) (w : World) (hm : ¬ mayD d0 d1 d2) :
    Calls Tryz.prog 157 #[A3 d0 d1 d2, v] w fun e W' => e = .returned (I 8) ∧ Below w.heap.size w W' := by
  go_enter Tryz.func157, Tryz.ntmps157
  go_wp2_with fail
  refine (check_no _ hm).mono ?_
  rintro e w1 ⟨rfl, hB⟩
  go_wp2
  go_ret
  exact ⟨rfl, then_below ((Below.refl _ w).alloc (Nat.le_refl _) _) hB⟩

/-- The calls of box.along in box.check. -/
theorem along_check {w : World} {D B : Nat} {d0 d1 d2 : Int} {b : Bx} (hd : Blk w D 23 #[I d0, I d1, I d2]) (hb : Blk w B 40 #[I b.x, I b.y, I b.z, I b.a, I b.b, I b.c]) :
    Calls Tryz.prog 176 #[.func (.func 177) #[] #[.pointer (some ⟨D, 0, none⟩), .pointer (some ⟨B, 0, none⟩)]] w fun e W' => e = .returned (.bool (mayBB d0 d1 d2 b)) ∧ Below w.heap.size w W' :=
  along_ck w ⟨rfl, _, _, rfl⟩ (ans_check hd hb)

set_option maxRecDepth 100000 in
set_option maxHeartbeats 2000000 in
theorem chk_one {d0 d1 d2 : Int} {b : Bx} (S : Nat) (w : World) (hm : mayD d0 d1 d2) (hS : Blk w S 40 #[I b.x, I b.y, I b.z, I b.a, I b.b, I b.c]) :
    Calls Tryz.prog 157 #[A3 d0 d1 d2, .slice (some ⟨S, 0, none⟩) 1 1] w fun e W' => e = .returned (I (codeOf (mayBB d0 d1 d2 b))) ∧ Below w.heap.size w W' := by
  go_enter Tryz.func157, Tryz.ntmps157
  go_wp2_with fail
  have hB0 : Below w.heap.size w (w.alloc (.cells #[I d0, I d1, I d2] 23)) := (Below.refl _ w).alloc (Nat.le_refl _) _
  have b0 := Blk.new w 23 #[I d0, I d1, I d2]
  have b1 := hS.later hB0
  generalize w.alloc (.cells #[I d0, I d1, I d2] 23) = W at *
  refine (check_yes _ hm).mono ?_
  rintro e w1 ⟨rfl, hT⟩
  go_wp2_with fail
  go_loopw [16] (fun i wr => ((i = .int .i64 0) ∨ (i = .int .i64 1 ∧ mayBB d0 d1 d2 b = true)) ∧ Below W.heap.size W wr) (fun i _ => 1 - (RowKit.intOf i).toNat)
  case atStart => exact ⟨.inl rfl, hT⟩
  case round =>
    obtain ⟨hi, hT⟩ := hrel
    rcases hi with rfl | ⟨rfl, h0⟩
    · obtain ⟨⟨k0, k1, k2⟩, ⟨k3, k4, k5⟩, hz1⟩ := b1.six hT
      go_wp2_with fail
      have q0 := (b0.later hT).alloc (.cells #[I b.x, I b.y, I b.z, I b.a, I b.b, I b.c] 40)
      have q1 := Blk.new wr 40 #[I b.x, I b.y, I b.z, I b.a, I b.b, I b.c]
      have hT := then_alloc hT (.cells #[I b.x, I b.y, I b.z, I b.a, I b.b, I b.c] 40)
      refine (along_check q0 q1).mono ?_
      rintro e w2 ⟨rfl, hB⟩
      cases hp : mayBB d0 d1 d2 b
      · go_wp2
        go_ret
        exact ⟨by simp [codeOf, hp], then_below hB0 (then_below hT hB)⟩
      · go_wp2
        go_roundw
        case rel => exact ⟨.inr ⟨rfl, hp⟩, then_below hT hB⟩
        case measure => simp [RowKit.intOf]
    · go_wp2
      go_ret
      exact ⟨by simp [codeOf, h0], then_below hB0 hT⟩

set_option maxRecDepth 100000 in
set_option maxHeartbeats 2000000 in
theorem chk_two {d0 d1 d2 : Int} {a b : Bx} (S : Nat) (w : World) (hm : mayD d0 d1 d2) (hS : Blk w S 40 #[I a.x, I a.y, I a.z, I a.a, I a.b, I a.c, I b.x, I b.y, I b.z, I b.a, I b.b, I b.c]) :
    Calls Tryz.prog 157 #[A3 d0 d1 d2, .slice (some ⟨S, 0, none⟩) 2 2] w fun e W' => e = .returned (I (codeOf (mayBB d0 d1 d2 a && mayBB d0 d1 d2 b))) ∧ Below w.heap.size w W' := by
  go_enter Tryz.func157, Tryz.ntmps157
  go_wp2_with fail
  have hB0 : Below w.heap.size w (w.alloc (.cells #[I d0, I d1, I d2] 23)) := (Below.refl _ w).alloc (Nat.le_refl _) _
  have b0 := Blk.new w 23 #[I d0, I d1, I d2]
  have b1 := hS.later hB0
  generalize w.alloc (.cells #[I d0, I d1, I d2] 23) = W at *
  refine (check_yes _ hm).mono ?_
  rintro e w1 ⟨rfl, hT⟩
  go_wp2_with fail
  go_loopw [16] (fun i wr => ((i = .int .i64 0) ∨ (i = .int .i64 1 ∧ mayBB d0 d1 d2 a = true) ∨ (i = .int .i64 2 ∧ mayBB d0 d1 d2 a = true ∧ mayBB d0 d1 d2 b = true)) ∧ Below W.heap.size W wr) (fun i _ => 2 - (RowKit.intOf i).toNat)
  case atStart => exact ⟨.inl rfl, hT⟩
  case round =>
    obtain ⟨hi, hT⟩ := hrel
    have r1 := b1.later hT
    rcases hi with rfl | ⟨rfl, h0⟩ | ⟨rfl, h0, h1⟩
    · have k0 := r1.cell 0
      have k1 := r1.cell 1
      have k2 := r1.cell 2
      have k3 := r1.cell 3
      have k4 := r1.cell 4
      have k5 := r1.cell 5
      simp at k0 k1 k2 k3 k4 k5
      go_wp2_with fail
      have q0 := (b0.later hT).alloc (.cells #[I a.x, I a.y, I a.z, I a.a, I a.b, I a.c] 40)
      have q1 := Blk.new wr 40 #[I a.x, I a.y, I a.z, I a.a, I a.b, I a.c]
      have hT := then_alloc hT (.cells #[I a.x, I a.y, I a.z, I a.a, I a.b, I a.c] 40)
      refine (along_check q0 q1).mono ?_
      rintro e w2 ⟨rfl, hB⟩
      cases hp : mayBB d0 d1 d2 a
      · go_wp2
        go_ret
        exact ⟨by simp [codeOf, hp], then_below hB0 (then_below hT hB)⟩
      · go_wp2
        go_roundw
        case rel => exact ⟨.inr (.inl ⟨rfl, hp⟩), then_below hT hB⟩
        case measure => simp [RowKit.intOf]
    · have k0 := r1.cell 6
      have k1 := r1.cell 7
      have k2 := r1.cell 8
      have k3 := r1.cell 9
      have k4 := r1.cell 10
      have k5 := r1.cell 11
      simp at k0 k1 k2 k3 k4 k5
      go_wp2_with fail
      have q0 := (b0.later hT).alloc (.cells #[I b.x, I b.y, I b.z, I b.a, I b.b, I b.c] 40)
      have q1 := Blk.new wr 40 #[I b.x, I b.y, I b.z, I b.a, I b.b, I b.c]
      have hT := then_alloc hT (.cells #[I b.x, I b.y, I b.z, I b.a, I b.b, I b.c] 40)
      refine (along_check q0 q1).mono ?_
      rintro e w2 ⟨rfl, hB⟩
      cases hp : mayBB d0 d1 d2 b
      · go_wp2
        go_ret
        exact ⟨by simp [codeOf, hp], then_below hB0 (then_below hT hB)⟩
      · go_wp2
        go_roundw
        case rel => exact ⟨.inr (.inr ⟨rfl, h0, hp⟩), then_below hT hB⟩
        case measure => simp [RowKit.intOf]
    · go_wp2
      go_ret
      exact ⟨by simp [codeOf, h0, h1], then_below hB0 hT⟩

/-- The error of a box. -/
def errB (d0 d1 d2 : Int) (b : Bx) : Int := if okDB d0 d1 d2 then codeOf (mayBB d0 d1 d2 b) else 8
def errB2 (d0 d1 d2 : Int) (a b : Bx) : Int := if okDB d0 d1 d2 then codeOf (mayBB d0 d1 d2 a && mayBB d0 d1 d2 b) else 8

theorem chk1 {d0 d1 d2 : Int} {b : Bx} (S : Nat) (w : World) (hS : Blk w S 40 #[I b.x, I b.y, I b.z, I b.a, I b.b, I b.c]) :
    Calls Tryz.prog 157 #[A3 d0 d1 d2, .slice (some ⟨S, 0, none⟩) 1 1] w fun e W' => e = .returned (I (errB d0 d1 d2 b)) ∧ Below w.heap.size w W' := by
  by_cases hm : mayD d0 d1 d2
  · rw [errB, if_pos ((okDB_iff _ _ _).2 hm)]; exact chk_one S w hm hS
  · rw [errB, if_neg (by rw [okDB_iff]; exact hm)]; exact chk_bad _ w hm
theorem chk2 {d0 d1 d2 : Int} {a b : Bx} (S : Nat) (w : World) (hS : Blk w S 40 #[I a.x, I a.y, I a.z, I a.a, I a.b, I a.c, I b.x, I b.y, I b.z, I b.a, I b.b, I b.c]) :
    Calls Tryz.prog 157 #[A3 d0 d1 d2, .slice (some ⟨S, 0, none⟩) 2 2] w fun e W' => e = .returned (I (errB2 d0 d1 d2 a b)) ∧ Below w.heap.size w W' := by
  by_cases hm : mayD d0 d1 d2
  · rw [errB2, if_pos ((okDB_iff _ _ _).2 hm)]; exact chk_two S w hm hS
  · rw [errB2, if_neg (by rw [okDB_iff]; exact hm)]; exact chk_bad _ w hm

end Go.Proofs.YtldcagjnngkabaaGreatDoor

/-
  Plain arithmetic: steps on a torus add up, lead round, and do not hang on each other; how far midplanes are apart. No program is named here.
-/
namespace Go.Proofs.YtldcagjnngkabaaGreatDoor
open Go.RowKit

/-- What a step makes of the coordinates. -/
theorem on_coords {d0 d1 d2 m : Int} (h : mayD d0 d1 d2) (hm : 0 ≤ m ∧ m < d0 * d1 * d2) (k : Fin 3) (n : Int) :
    (0 ≤ onD d0 d1 d2 m k n ∧ onD d0 d1 d2 m k n < d0 * d1 * d2) ∧
    cx d0 (onD d0 d1 d2 m k n) = (if k = 0 then (cx d0 m + n) % d0 else cx d0 m) ∧
    cy d0 d1 (onD d0 d1 d2 m k n) = (if k = 1 then (cy d0 d1 m + n) % d1 else cy d0 d1 m) ∧
    cz d0 d1 (onD d0 d1 d2 m k n) = (if k = 2 then (cz d0 d1 m + n) % d2 else cz d0 d1 m) := by
  obtain ⟨i0, i1, i2⟩ := inD_on h hm n
  match k with
  | 0 => exact node_of_in h i0
  | 1 => exact node_of_in h i1
  | 2 => exact node_of_in h i2
theorem on_node {d0 d1 d2 m : Int} (h : mayD d0 d1 d2) (hm : 0 ≤ m ∧ m < d0 * d1 * d2) (k : Fin 3) (n : Int) : 0 ≤ onD d0 d1 d2 m k n ∧ onD d0 d1 d2 m k n < d0 * d1 * d2 := (on_coords h hm k n).1

/-- Midplanes with the same coordinates are one. -/
theorem node_ext {d0 d1 m n : Int} (hx : cx d0 m = cx d0 n) (hy : cy d0 d1 m = cy d0 d1 n) (hz : cz d0 d1 m = cz d0 d1 n) : m = n := by
  rw [← num_of_node (d0 := d0) (d1 := d1) (m := m), hx, hy, hz, num_of_node]

theorem on_on {d0 d1 d2 m : Int} (h : mayD d0 d1 d2) (hm : 0 ≤ m ∧ m < d0 * d1 * d2) (k : Fin 3) (a b : Int) : onD d0 d1 d2 (onD d0 d1 d2 m k a) k b = onD d0 d1 d2 m k (a + b) := by
  obtain ⟨n1, x1, y1, z1⟩ := on_coords h hm k a
  obtain ⟨_, x2, y2, z2⟩ := on_coords h n1 k b
  obtain ⟨_, x3, y3, z3⟩ := on_coords h hm k (a + b)
  refine node_ext (d0 := d0) (d1 := d1) ?_ ?_ ?_
  · rw [x2, x3, x1]; split
    · rw [Int.emod_add_emod, Int.add_assoc]
    · rfl
  · rw [y2, y3, y1]; split
    · rw [Int.emod_add_emod, Int.add_assoc]
    · rfl
  · rw [z2, z3, z1]; split
    · rw [Int.emod_add_emod, Int.add_assoc]
    · rfl
theorem on_comm {d0 d1 d2 m : Int} (h : mayD d0 d1 d2) (hm : 0 ≤ m ∧ m < d0 * d1 * d2) (j k : Fin 3) (a b : Int) : onD d0 d1 d2 (onD d0 d1 d2 m j a) k b = onD d0 d1 d2 (onD d0 d1 d2 m k b) j a := by
  by_cases hjk : j = k
  · subst hjk; rw [on_on h hm, on_on h hm, Int.add_comm]
  · obtain ⟨n1, x1, y1, z1⟩ := on_coords h hm j a
    obtain ⟨_, x2, y2, z2⟩ := on_coords h n1 k b
    obtain ⟨n3, x3, y3, z3⟩ := on_coords h hm k b
    obtain ⟨_, x4, y4, z4⟩ := on_coords h n3 j a
    refine node_ext (d0 := d0) (d1 := d1) ?_ ?_ ?_
    · rw [x2, x4, x1, x3]
      by_cases e : j = 0
      · by_cases e' : k = 0
        · exact absurd (e.trans e'.symm) hjk
        · simp [e, e']
      · by_cases e' : k = 0 <;> simp [e, e']
    · rw [y2, y4, y1, y3]
      by_cases e : j = 1
      · by_cases e' : k = 1
        · exact absurd (e.trans e'.symm) hjk
        · simp [e, e']
      · by_cases e' : k = 1 <;> simp [e, e']
    · rw [z2, z4, z1, z3]
      by_cases e : j = 2
      · by_cases e' : k = 2
        · exact absurd (e.trans e'.symm) hjk
        · simp [e, e']
      · by_cases e' : k = 2 <;> simp [e, e']
theorem on_round {d0 d1 d2 m : Int} (h : mayD d0 d1 d2) (hm : 0 ≤ m ∧ m < d0 * d1 * d2) (k : Fin 3) (n : Int) (hn : n = 0 ∨ n = dimAt d0 d1 d2 k) : onD d0 d1 d2 m k n = m := by
  obtain ⟨ix, iy, iz⟩ := inD_of_node h hm
  obtain ⟨_, x1, y1, z1⟩ := on_coords h hm k n
  have e : ∀ c d : Int, 0 ≤ c → c < d → n = 0 ∨ n = d → (c + n) % d = c := by
    intro c d h1 h2 h3
    rcases h3 with h3 | h3
    · rw [h3, Int.add_zero, Int.emod_eq_of_lt h1 h2]
    · rw [h3, Int.add_emod_right, Int.emod_eq_of_lt h1 h2]
  refine node_ext (d0 := d0) (d1 := d1) ?_ ?_ ?_
  · rw [x1]; split
    · rename_i hk; subst hk; exact e _ _ ix.1 ix.2 hn
    · rfl
  · rw [y1]; split
    · rename_i hk; subst hk; exact e _ _ iy.1 iy.2 hn
    · rfl
  · rw [z1]; split
    · rename_i hk; subst hk; exact e _ _ iz.1 iz.2 hn
    · rfl

/-- How far apart on a ring, said without a remainder. -/
theorem ring_eq {n p q : Int} (hp : 0 ≤ p ∧ p < n) (hq : 0 ≤ q ∧ q < n) :
    (p ≤ q ∧ ((q - p ≤ n - (q - p) ∧ ring n p q = q - p) ∨ (n - (q - p) < q - p ∧ ring n p q = n - (q - p)))) ∨
    (q < p ∧ ((q - p + n ≤ p - q ∧ ring n p q = q - p + n) ∨ (p - q < q - p + n ∧ ring n p q = p - q))) := by
  have e : (q - p) % n = if p ≤ q then q - p else q - p + n := by
    split
    · exact Int.emod_eq_of_lt (by omega) (by omega)
    · rw [← Int.add_emod_right]; exact Int.emod_eq_of_lt (by omega) (by omega)
  unfold ring minI
  by_cases h : p ≤ q
  · rw [if_pos h] at e
    rw [e]
    by_cases h' : n - (q - p) < q - p
    · rw [if_pos h']; omega
    · rw [if_neg h']; omega
  · rw [if_neg h] at e
    rw [e]
    by_cases h' : n - (q - p + n) < q - p + n
    · rw [if_pos h']; omega
    · rw [if_neg h']; omega
theorem ring_sym {n p q : Int} (hp : 0 ≤ p ∧ p < n) (hq : 0 ≤ q ∧ q < n) : ring n p q = ring n q p := by
  have a := ring_eq hp hq
  have b := ring_eq hq hp
  omega
theorem ring_pos {n p q : Int} (hp : 0 ≤ p ∧ p < n) (hq : 0 ≤ q ∧ q < n) : 0 ≤ ring n p q ∧ (ring n p q = 0 ↔ p = q) := by
  have a := ring_eq hp hq
  omega
theorem ring_tri {n p q r : Int} (hp : 0 ≤ p ∧ p < n) (hq : 0 ≤ q ∧ q < n) (hr : 0 ≤ r ∧ r < n) : ring n p r ≤ ring n p q + ring n q r := by
  have a := ring_eq hp hq
  have b := ring_eq hq hr
  have c := ring_eq hp hr
  omega
theorem ring_step {n p : Int} (hp : 0 ≤ p ∧ p < n) : ring n p ((p + 1) % n) = if 1 < n then 1 else 0 := by
  have e : (p + 1) % n = if p + 1 < n then p + 1 else 0 := by
    split
    · exact Int.emod_eq_of_lt (by omega) (by omega)
    · have : p + 1 = n := by omega
      rw [this, Int.emod_self]
  have hb : 0 ≤ (p + 1) % n ∧ (p + 1) % n < n := ⟨Int.emod_nonneg _ (by omega), Int.emod_lt_of_pos _ (by omega)⟩
  have a := ring_eq hp hb
  generalize (p + 1) % n = q at *
  split <;> split at e <;> omega
theorem ring_self {n p : Int} (hp : 0 ≤ p ∧ p < n) : ring n p p = 0 := (ring_pos hp hp).2.2 rfl

theorem far_bd {d0 d1 d2 : Int} (h : mayD d0 d1 d2) (a b : Int) : 0 ≤ farD d0 d1 d2 a b ∧ farD d0 d1 d2 a b ≤ 48 := by
  obtain ⟨h0, h1, h2⟩ := h
  unfold okD at h0 h1 h2
  have x := ring_bd (p := cx d0 a) (q := cx d0 b) h0.1 h0.2
  have y := ring_bd (p := cy d0 d1 a) (q := cy d0 d1 b) h1.1 h1.2
  have z := ring_bd (p := cz d0 d1 a) (q := cz d0 d1 b) h2.1 h2.2
  unfold farD
  omega
theorem far_sym {d0 d1 d2 a b : Int} (h : mayD d0 d1 d2) (ha : 0 ≤ a ∧ a < d0 * d1 * d2) (hb : 0 ≤ b ∧ b < d0 * d1 * d2) : farD d0 d1 d2 a b = farD d0 d1 d2 b a := by
  obtain ⟨a0, a1, a2⟩ := inD_of_node h ha
  obtain ⟨b0, b1, b2⟩ := inD_of_node h hb
  unfold farD
  rw [ring_sym a0 b0, ring_sym a1 b1, ring_sym a2 b2]
theorem far_zero {d0 d1 d2 a b : Int} (h : mayD d0 d1 d2) (ha : 0 ≤ a ∧ a < d0 * d1 * d2) (hb : 0 ≤ b ∧ b < d0 * d1 * d2) : farD d0 d1 d2 a b = 0 ↔ a = b := by
  obtain ⟨a0, a1, a2⟩ := inD_of_node h ha
  obtain ⟨b0, b1, b2⟩ := inD_of_node h hb
  have x := ring_pos a0 b0
  have y := ring_pos a1 b1
  have z := ring_pos a2 b2
  constructor
  · intro hf
    unfold farD at hf
    exact node_ext (d0 := d0) (d1 := d1) (x.2.1 (by omega)) (y.2.1 (by omega)) (z.2.1 (by omega))
  · intro e
    subst e
    unfold farD
    rw [ring_self a0, ring_self a1, ring_self a2]; rfl
theorem far_tri {d0 d1 d2 a b c : Int} (h : mayD d0 d1 d2) (ha : 0 ≤ a ∧ a < d0 * d1 * d2) (hb : 0 ≤ b ∧ b < d0 * d1 * d2) (hc : 0 ≤ c ∧ c < d0 * d1 * d2) :
    farD d0 d1 d2 a c ≤ farD d0 d1 d2 a b + farD d0 d1 d2 b c := by
  obtain ⟨a0, a1, a2⟩ := inD_of_node h ha
  obtain ⟨b0, b1, b2⟩ := inD_of_node h hb
  obtain ⟨c0, c1, c2⟩ := inD_of_node h hc
  have x := ring_tri a0 b0 c0
  have y := ring_tri a1 b1 c1
  have z := ring_tri a2 b2 c2
  unfold farD
  omega
theorem far_on {d0 d1 d2 a : Int} (h : mayD d0 d1 d2) (ha : 0 ≤ a ∧ a < d0 * d1 * d2) (k : Fin 3) : farD d0 d1 d2 a (onD d0 d1 d2 a k 1) = if 1 < dimAt d0 d1 d2 k then 1 else 0 := by
  obtain ⟨a0, a1, a2⟩ := inD_of_node h ha
  obtain ⟨_, x1, y1, z1⟩ := on_coords h ha k 1
  unfold farD
  rw [x1, y1, z1]
  match k with
  | 0 => simp [ring_step a0, ring_self a1, ring_self a2, dimAt]; rfl
  | 1 => simp [ring_step a1, ring_self a0, ring_self a2, dimAt]; rfl
  | 2 => simp [ring_step a2, ring_self a0, ring_self a1, dimAt]; rfl

/-- Some steps on or back, no more than the way: just the whole way leads there. -/
theorem ring_hit {n p q j : Int} (hp : 0 ≤ p ∧ p < n) (hq : 0 ≤ q ∧ q < n) (h0 : 0 ≤ j) (hj : j ≤ ring n p q) : (j < ring n p q ↔ ((p + j) % n ≠ q ∧ (p + -j) % n ≠ q)) := by
  have a := ring_eq hp hq
  have hle : ring n p q ≤ n := by omega
  have e1 : (p + j) % n = p + j ∨ (p + j) % n = p + j - n := by
    rcases Int.lt_or_le (p + j) n with h | h
    · exact .inl (Int.emod_eq_of_lt (by omega) h)
    · right
      rw [← Int.sub_emod_right]
      exact Int.emod_eq_of_lt (by omega) (by omega)
  have e2 : (p + -j) % n = p + -j ∨ (p + -j) % n = p + -j + n := by
    rcases Int.lt_or_le (p + -j) 0 with h | h
    · right
      rw [← Int.add_emod_right]
      exact Int.emod_eq_of_lt (by omega) (by omega)
    · exact .inl (Int.emod_eq_of_lt h (by omega))
  have b1 : 0 ≤ (p + j) % n ∧ (p + j) % n < n := ⟨Int.emod_nonneg _ (by omega), Int.emod_lt_of_pos _ (by omega)⟩
  have b2 : 0 ≤ (p + -j) % n ∧ (p + -j) % n < n := ⟨Int.emod_nonneg _ (by omega), Int.emod_lt_of_pos _ (by omega)⟩
  generalize (p + j) % n = u at *
  generalize (p + -j) % n = v at *
  generalize ring n p q = r at *
  constructor
  · intro h; constructor <;> omega
  · rintro ⟨h1, h2⟩
    rcases Int.lt_or_le j r with h | h
    · exact h
    · omega

end Go.Proofs.YtldcagjnngkabaaGreatDoor

/-
  Plain arithmetic of cables: which midplanes steps along an axis lead to, listed rising; how many there are; lines are the same or apart. No program is named here.
-/
namespace Go.Proofs.YtldcagjnngkabaaGreatDoor
open Go.RowKit

theorem emod_inj {c d a b : Int} (hd : 0 < d) (ha : 0 ≤ a ∧ a < d) (hb : 0 ≤ b ∧ b < d) (e : (c + a) % d = (c + b) % d) : a = b := by
  have h1 := Int.emod_add_mul_ediv (c + a) d
  have h2 := Int.emod_add_mul_ediv (c + b) d
  rw [e] at h1
  generalize (c + b) % d = r at h1 h2
  generalize (c + a) / d = p at h1
  generalize (c + b) / d = q at h2
  have h3 : d * (p - q) = a - b := by rw [Int.mul_sub]; omega
  rcases Int.lt_trichotomy (p - q) 0 with h | h | h
  · have := Int.mul_le_mul_of_nonneg_left (show p - q ≤ -1 by omega) (Int.le_of_lt hd)
    omega
  · rw [h] at h3; omega
  · have := Int.mul_le_mul_of_nonneg_left (show 1 ≤ p - q by omega) (Int.le_of_lt hd)
    omega

/-- Two ways of less than the ring's length that lead to one midplane are the same. -/
theorem on_inj {d0 d1 d2 m : Int} (h : mayD d0 d1 d2) (hm : 0 ≤ m ∧ m < d0 * d1 * d2) (k : Fin 3) {a b : Int} (ha : 0 ≤ a ∧ a < dimAt d0 d1 d2 k) (hb : 0 ≤ b ∧ b < dimAt d0 d1 d2 k) (e : onD d0 d1 d2 m k a = onD d0 d1 d2 m k b) : a = b := by
  obtain ⟨_, x1, y1, z1⟩ := on_coords h hm k a
  obtain ⟨_, x2, y2, z2⟩ := on_coords h hm k b
  have hk := dimAt_ok h k
  unfold okD at hk
  rw [e] at x1 y1 z1
  match k, ha, hb, hk, x1, x2, y1, y2, z1, z2 with
  | 0, ha, hb, hk, x1, x2, _, _, _, _ => exact emod_inj (d := d0) (by simp only [dimAt] at hk; omega) ha hb (x1.symm.trans x2)
  | 1, ha, hb, hk, _, _, y1, y2, _, _ => exact emod_inj (d := d1) (by simp only [dimAt] at hk; omega) ha hb (y1.symm.trans y2)
  | 2, ha, hb, hk, _, _, _, _, z1, z2 => exact emod_inj (d := d2) (by simp only [dimAt] at hk; omega) ha hb (z1.symm.trans z2)

/-- Steps count but for the ring's length. -/
theorem on_mod {d0 d1 d2 m : Int} (h : mayD d0 d1 d2) (hm : 0 ≤ m ∧ m < d0 * d1 * d2) (k : Fin 3) (n : Int) : onD d0 d1 d2 m k (n % dimAt d0 d1 d2 k) = onD d0 d1 d2 m k n := by
  obtain ⟨_, x1, y1, z1⟩ := on_coords h hm k (n % dimAt d0 d1 d2 k)
  obtain ⟨_, x2, y2, z2⟩ := on_coords h hm k n
  refine node_ext (d0 := d0) (d1 := d1) ?_ ?_ ?_
  · rw [x1, x2]; split
    · rename_i e; subst e; exact Int.add_emod_emod ..
    · rfl
  · rw [y1, y2]; split
    · rename_i e; subst e; exact Int.add_emod_emod ..
    · rfl
  · rw [z1, z2]; split
    · rename_i e; subst e; exact Int.add_emod_emod ..
    · rfl

/-- One is among so many from another one on. -/
def amongW (d0 d1 d2 m : Int) (k : Fin 3) (many : Nat) (o : Int) : Bool := (List.range many).any fun i => decide (onD d0 d1 d2 m k (i : Int) = o)
theorem among_iff {d0 d1 d2 m : Int} {k : Fin 3} {many : Nat} {o : Int} : amongW d0 d1 d2 m k many o = true ↔ ∃ i : Nat, i < many ∧ onD d0 d1 d2 m k i = o := by
  simp [amongW, List.any_eq_true]

/-- Those, rising. -/
def nodesW (d0 d1 d2 m : Int) (k : Fin 3) (many : Nat) : List Nat := (List.range (d0 * d1 * d2).toNat).filter fun o => amongW d0 d1 d2 m k many (o : Int)
theorem nodes_rise (d0 d1 d2 m : Int) (k : Fin 3) (many : Nat) : (nodesW d0 d1 d2 m k many).Pairwise (· < ·) := (List.pairwise_lt_range).filter _
theorem nodes_mem {d0 d1 d2 m : Int} {k : Fin 3} {many : Nat} {o : Nat} : o ∈ nodesW d0 d1 d2 m k many ↔ (o : Int) < d0 * d1 * d2 ∧ ∃ i : Nat, i < many ∧ onD d0 d1 d2 m k i = (o : Int) := by
  unfold nodesW
  rw [List.mem_filter, List.mem_range, among_iff]
  constructor
  · rintro ⟨a, b⟩; exact ⟨by omega, b⟩
  · rintro ⟨a, b⟩; exact ⟨by omega, b⟩

theorem lenN_le : ∀ (a b : List Nat), a.Nodup → (∀ x ∈ a, x ∈ b) → a.length ≤ b.length
  | [], b, _, _ => Nat.zero_le _
  | x :: a, b, hn, hs => by
    have hx := hs x (by simp)
    have ih := lenN_le a (b.erase x) (List.nodup_cons.1 hn).2 fun y hy => by
      have hne : y ≠ x := fun e => (List.nodup_cons.1 hn).1 (e ▸ hy)
      exact (List.mem_erase_of_ne hne).2 (hs y (by simp [hy]))
    rw [List.length_erase_of_mem hx] at ih
    have : 0 < b.length := List.length_pos_of_mem hx
    simp only [List.length_cons]
    omega
/-- There are as many as steps. -/
theorem nodes_len {d0 d1 d2 m : Int} (h : mayD d0 d1 d2) (hm : 0 ≤ m ∧ m < d0 * d1 * d2) (k : Fin 3) {many : Nat} (hk : (many : Int) ≤ dimAt d0 d1 d2 k) : (nodesW d0 d1 d2 m k many).length = many := by
  have hn1 : (nodesW d0 d1 d2 m k many).Nodup := (nodes_rise d0 d1 d2 m k many).imp fun hab e => by omega
  have hn2 : ((List.range many).map fun i : Nat => (onD d0 d1 d2 m k (i : Int)).toNat).Nodup := by
    refine List.pairwise_map.2 ?_
    refine (List.pairwise_lt_range (n := many)).imp_of_mem fun {a b} ha hb hab e => ?_
    have ha' := List.mem_range.1 ha
    have hb' := List.mem_range.1 hb
    have n1 := on_node h hm k (a : Int)
    have n2 := on_node h hm k (b : Int)
    have := on_inj h hm k (a := (a : Int)) (b := (b : Int)) (by omega) (by omega) (by omega)
    omega
  have e : ∀ x, x ∈ nodesW d0 d1 d2 m k many ↔ x ∈ (List.range many).map fun i : Nat => (onD d0 d1 d2 m k (i : Int)).toNat := by
    intro x
    rw [nodes_mem, List.mem_map]
    constructor
    · rintro ⟨_, i, hi, ei⟩
      exact ⟨i, List.mem_range.2 hi, by rw [ei]; exact Int.toNat_natCast x⟩
    · rintro ⟨i, hi, rfl⟩
      have n1 := on_node h hm k (i : Int)
      exact ⟨by omega, i, List.mem_range.1 hi, by omega⟩
  have l1 := lenN_le _ _ hn1 fun x hx => (e x).1 hx
  have l2 := lenN_le _ _ hn2 fun x hx => (e x).2 hx
  simp only [List.length_map, List.length_range] at l1 l2
  omega
theorem nodes_more {d0 d1 d2 m : Int} {k : Fin 3} {many more : Nat} (h : many ≤ more) {o : Nat} (ho : o ∈ nodesW d0 d1 d2 m k many) : o ∈ nodesW d0 d1 d2 m k more := by
  obtain ⟨a, i, hi, e⟩ := nodes_mem.1 ho
  exact nodes_mem.2 ⟨a, i, by omega, e⟩

/-- Steps along the axis lead from one to the other. -/
def oneLine (d0 d1 d2 m o : Int) (k : Fin 3) : Bool := amongW d0 d1 d2 m k (dimAt d0 d1 d2 k).toNat o
theorem one_any {d0 d1 d2 m o : Int} (h : mayD d0 d1 d2) (hm : 0 ≤ m ∧ m < d0 * d1 * d2) (k : Fin 3) : oneLine d0 d1 d2 m o k = true ↔ ∃ n : Int, onD d0 d1 d2 m k n = o := by
  have hk := dimAt_ok h k
  unfold okD at hk
  unfold oneLine
  rw [among_iff]
  constructor
  · rintro ⟨i, _, e⟩; exact ⟨i, e⟩
  · rintro ⟨n, e⟩
    have h0 := Int.emod_nonneg n (show dimAt d0 d1 d2 k ≠ 0 by omega)
    have h1 := Int.emod_lt_of_pos n (show 0 < dimAt d0 d1 d2 k by omega)
    refine ⟨(n % dimAt d0 d1 d2 k).toNat, by omega, ?_⟩
    rw [Int.toNat_of_nonneg h0, on_mod h hm, e]
/-- Midplanes of one line have one line. -/
theorem line_same {d0 d1 d2 m o : Int} (h : mayD d0 d1 d2) (hm : 0 ≤ m ∧ m < d0 * d1 * d2) (ho : 0 ≤ o ∧ o < d0 * d1 * d2) (k : Fin 3) (h1 : oneLine d0 d1 d2 m o k = true) :
    nodesW d0 d1 d2 m k (dimAt d0 d1 d2 k).toNat = nodesW d0 d1 d2 o k (dimAt d0 d1 d2 k).toNat := by
  obtain ⟨n, e⟩ := (one_any h hm k).1 h1
  unfold nodesW
  refine List.filter_congr fun p _ => ?_
  rw [Bool.eq_iff_iff]
  show oneLine d0 d1 d2 m p k = true ↔ oneLine d0 d1 d2 o p k = true
  rw [one_any h hm, one_any h ho]
  constructor
  · rintro ⟨a, ea⟩
    exact ⟨a - n, by rw [← e, on_on h hm, show n + (a - n) = a by omega]; exact ea⟩
  · rintro ⟨a, ea⟩
    exact ⟨n + a, by rw [← on_on h hm, e]; exact ea⟩
/-- Lines that are not the same have no midplane in common. -/
theorem line_apart {d0 d1 d2 m o : Int} (h : mayD d0 d1 d2) (hm : 0 ≤ m ∧ m < d0 * d1 * d2) (ho : 0 ≤ o ∧ o < d0 * d1 * d2) (k : Fin 3) (h1 : oneLine d0 d1 d2 m o k = false) {p : Nat}
    (ha : p ∈ nodesW d0 d1 d2 m k (dimAt d0 d1 d2 k).toNat) (hb : p ∈ nodesW d0 d1 d2 o k (dimAt d0 d1 d2 k).toNat) : False := by
  obtain ⟨_, i, _, ei⟩ := nodes_mem.1 ha
  obtain ⟨_, j, _, ej⟩ := nodes_mem.1 hb
  have : oneLine d0 d1 d2 m o k = true := by
    rw [one_any h hm]
    refine ⟨i + -j, ?_⟩
    rw [← on_on h hm, ei, ← ej, on_on h ho, Int.add_right_neg]
    exact on_round h ho k 0 (.inl rfl)
  rw [this] at h1
  cases h1

/-- A cable's number. -/
def cabW (d0 d1 d2 : Int) (k : Fin 3) (o : Int) : Int := axI k * (d0 * d1 * d2) + o
theorem cab_bd {d0 d1 d2 o : Int} (h : mayD d0 d1 d2) (ho : 0 ≤ o ∧ o < d0 * d1 * d2) (k : Fin 3) :
    0 ≤ cabW d0 d1 d2 k o ∧ cabW d0 d1 d2 k o < 3 * (d0 * d1 * d2) ∧ cabW d0 d1 d2 k o / (d0 * d1 * d2) = axI k ∧ cabW d0 d1 d2 k o % (d0 * d1 * d2) = o := by
  have hN := N_bd h
  unfold cabW
  generalize d0 * d1 * d2 = N at *
  have e1 : (axI k * N + o) / N = axI k := by
    rw [Int.add_comm, Int.add_mul_ediv_right _ _ (by omega), Int.ediv_eq_zero_of_lt ho.1 ho.2, Int.zero_add]
  have e2 : (axI k * N + o) % N = o := by
    rw [Int.add_comm, Int.add_mul_emod_self_right, Int.emod_eq_of_lt ho.1 ho.2]
  refine ⟨?_, ?_, e1, e2⟩
  · match k with
    | 0 => simp only [axI]; omega
    | 1 => simp only [axI]; omega
    | 2 => simp only [axI]; omega
  · match k with
    | 0 => simp only [axI]; omega
    | 1 => simp only [axI]; omega
    | 2 => simp only [axI]; omega
theorem cab_inj {d0 d1 d2 o p : Int} {k : Fin 3} (e : cabW d0 d1 d2 k o = cabW d0 d1 d2 k p) : o = p := by
  unfold cabW at e
  omega

/-- The cables from so many midplanes on, rising; none, if there is but one along the axis. -/
def cablesW (d0 d1 d2 m : Int) (k : Fin 3) (many : Nat) : List Int := if 1 < dimAt d0 d1 d2 k then (nodesW d0 d1 d2 m k many).map (fun o : Nat => cabW d0 d1 d2 k (o : Int)) else []
theorem cables_mem {d0 d1 d2 m : Int} {k : Fin 3} {many : Nat} {n : Int} : n ∈ cablesW d0 d1 d2 m k many ↔ 1 < dimAt d0 d1 d2 k ∧ ∃ o ∈ nodesW d0 d1 d2 m k many, n = cabW d0 d1 d2 k (o : Int) := by
  unfold cablesW
  split
  · rename_i h
    rw [List.mem_map]
    constructor
    · rintro ⟨o, ho, e⟩; exact ⟨h, o, ho, e.symm⟩
    · rintro ⟨_, o, ho, e⟩; exact ⟨o, ho, e.symm⟩
  · rename_i h
    simp [h]
theorem cables_len {d0 d1 d2 m : Int} (h : mayD d0 d1 d2) (hm : 0 ≤ m ∧ m < d0 * d1 * d2) (k : Fin 3) {many : Nat} (hk : (many : Int) ≤ dimAt d0 d1 d2 k) :
    (cablesW d0 d1 d2 m k many).length = if 1 < dimAt d0 d1 d2 k then many else 0 := by
  unfold cablesW
  split
  · rw [List.length_map, nodes_len h hm k hk]
  · rfl
theorem cables_rise (d0 d1 d2 m : Int) (k : Fin 3) (many : Nat) : (cablesW d0 d1 d2 m k many).Pairwise (· < ·) := by
  unfold cablesW
  split
  · refine List.pairwise_map.2 ((nodes_rise d0 d1 d2 m k many).imp fun {a b} hab => ?_)
    unfold cabW
    omega
  · exact List.Pairwise.nil
theorem cables_more {d0 d1 d2 m : Int} {k : Fin 3} {many more : Nat} (h : many ≤ more) {n : Int} (hn : n ∈ cablesW d0 d1 d2 m k many) : n ∈ cablesW d0 d1 d2 m k more := by
  obtain ⟨a, o, ho, e⟩ := cables_mem.1 hn
  exact cables_mem.2 ⟨a, o, nodes_more h ho, e⟩
theorem cables_same {d0 d1 d2 m o : Int} (h : mayD d0 d1 d2) (hm : 0 ≤ m ∧ m < d0 * d1 * d2) (ho : 0 ≤ o ∧ o < d0 * d1 * d2) (k : Fin 3) (h1 : oneLine d0 d1 d2 m o k = true) :
    cablesW d0 d1 d2 m k (dimAt d0 d1 d2 k).toNat = cablesW d0 d1 d2 o k (dimAt d0 d1 d2 k).toNat := by
  unfold cablesW
  rw [line_same h hm ho k h1]
theorem cables_apart {d0 d1 d2 m o : Int} (h : mayD d0 d1 d2) (hm : 0 ≤ m ∧ m < d0 * d1 * d2) (ho : 0 ≤ o ∧ o < d0 * d1 * d2) (k : Fin 3) (h1 : oneLine d0 d1 d2 m o k = false) {n : Int}
    (ha : n ∈ cablesW d0 d1 d2 m k (dimAt d0 d1 d2 k).toNat) (hb : n ∈ cablesW d0 d1 d2 o k (dimAt d0 d1 d2 k).toNat) : False := by
  obtain ⟨_, p, hp, e⟩ := cables_mem.1 ha
  obtain ⟨_, q, hq, e'⟩ := cables_mem.1 hb
  have := cab_inj (e.symm.trans e')
  have hpq : p = q := by omega
  subst hpq
  exact line_apart h hm ho k h1 hp hq

end Go.Proofs.YtldcagjnngkabaaGreatDoor

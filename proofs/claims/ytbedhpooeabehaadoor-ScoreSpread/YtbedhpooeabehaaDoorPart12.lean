/-
  '==' between two boxes: as their numbers are.
-/
import Derived.Test.YtbedhpooeabehaaDoorPart11
import Derived.Test.YtbedhpooeabehaaDoorPart3
import Derived.Test.YtbedhpooeabehaaDoorPart8
import Derived.Test.YtbedhpooeabehaaDoorPart6
namespace Go.Proofs.YtbedhpooeabehaaDoor
open Go.RowKit

theorem eqIn_arr3_at {P : Program} (d : Nat) {t e : TypeId} {i : TypeInfo} (hu : P.underlying t = some (.array 3 e)) (he : P.underlying e = some (.int .i64)) (hi : P.info? e = some i) (hc : P.cellsOf e = 1) (hp : P.plainKey e = true)
    (a b c a' b' c' : Int) (w : World) : (Op.equalIn (d + 2) t (.agg #[.int .i64 a, .int .i64 b, .int .i64 c]) (.agg #[.int .i64 a', .int .i64 b', .int .i64 c'])).run P w = .ok (a == a' && (b == b' && c == c')) w := by
  rw [run_equalIn_array w (d + 1) _ _ hu hi, hc]
  have r3 : List.range 3 = [0, 1, 2] := rfl
  have p0 : ∀ (x y z : Value) (w : World), (part e #[x, y, z] 0).run P w = .ok x w := fun x y z w => run_part_plain w hp rfl
  have p1 : ∀ (x y z : Value) (w : World), (part e #[x, y, z] 1).run P w = .ok y w := fun x y z w => run_part_plain w hp rfl
  have p2 : ∀ (x y z : Value) (w : World), (part e #[x, y, z] 2).run P w = .ok z w := fun x y z w => run_part_plain w hp rfl
  have hq : ∀ (x y : Int) (w : World), (Op.equalIn (d + 1) e (.int .i64 x) (.int .i64 y)).run P w = .ok (x == y) w := fun x y w => run_equalIn_int w d e .i64 .i64 x y he
  rw [r3]
  by_cases h0 : a = a' <;> by_cases h1 : b = b' <;> by_cases h2 : c = c' <;> simp [Op.eqItems, p0, p1, p2, hq, h0, h1, h2]

/-- Two rows of three numbers are the same. -/
def same3 (a b c a' b' c' : Int) : Bool := a == a' && (b == b' && c == c')
theorem same3_self (a b c : Int) : same3 a b c a b c = true := by simp [same3]
def sameBx (a b : Bx) : Bool := same3 a.x a.y a.z b.x b.y b.z && same3 a.a a.b a.c b.a b.b b.c
theorem sameBx_iff (a b : Bx) : sameBx a b = true ↔ a = b := by
  cases a; cases b; simp [sameBx, same3, and_assoc]
theorem sameBx_self (a : Bx) : sameBx a a = true := (sameBx_iff a a).2 rfl

set_option maxRecDepth 100000 in
theorem eq_arr9 (a b c a' b' c' : Int) (w : World) : (Op.equalIn 9999 25 (.agg #[.int .i64 a, .int .i64 b, .int .i64 c]) (.agg #[.int .i64 a', .int .i64 b', .int .i64 c'])).run Tryd.prog w = .ok (same3 a b c a' b' c') w := by
  obtain ⟨i, hi⟩ : ∃ i, Tryd.prog.info? 3 = some i := ⟨_, rfl⟩
  exact eqIn_arr3_at 9997 Tryd.underlying25 Tryd.underlying3 hi (by kernel_rfl) (by kernel_rfl) a b c a' b' c' w

end Go.Proofs.YtbedhpooeabehaaDoor

/-
  box's sides: sideOf, mayBe, after, has, meets, within: what each call answers; nothing that lay before is turned.
-/
namespace Go.Proofs.YtbedhpooeabehaaDoor
open Go.RowKit Go.Shelf

attribute [local go_sem] Oper.semAt_some ext_const

/-- What a later world has in a box's block. -/
theorem Blk.six {W W' : World} {B : Nat} {t : TypeId} {a b c d e f : Int} (h : Blk W B t #[I a, I b, I c, I d, I e, I f]) (hb : Below W.heap.size W W') :
    (W'.cell? ⟨B, 0, none⟩ = some (I a) ∧ W'.cell? ⟨B, 1, none⟩ = some (I b) ∧ W'.cell? ⟨B, 2, none⟩ = some (I c)) ∧ (W'.cell? ⟨B, 3, none⟩ = some (I d) ∧ W'.cell? ⟨B, 4, none⟩ = some (I e) ∧ W'.cell? ⟨B, 5, none⟩ = some (I f)) ∧ B < W'.heap.size :=
  ⟨⟨(h.later hb).cell 0, (h.later hb).cell 1, (h.later hb).cell 2⟩, ⟨(h.later hb).cell 3, (h.later hb).cell 4, (h.later hb).cell 5⟩, (h.later hb).lt⟩

theorem after_calls {r b k : Int} (s : Int) (w : World) (hr : r ≤ 16) (hb : 0 ≤ b ∧ b < r) (hk : 0 ≤ k ∧ k < r) :
    Calls Tryd.prog 71 #[A3 r b s, I k] w fun e W' => e = .returned (I (aft r b k)) ∧ Below w.heap.size w W' := by
  have HR : Hid ((k - b + r) % r = aft r b k) := aft_rem hb hk
  obtain ⟨b0, b1⟩ := hb
  obtain ⟨k0, k1⟩ := hk
  go_enter Tryd.func71, Tryd.ntmps71
  go_wp2
  go_ret
  rw [HR.out]
  exact ⟨rfl, (Below.refl _ w).alloc (Nat.le_refl _) _⟩

theorem has_calls {r b k : Int} (s : Int) (w : World) (hr : r ≤ 16) (hb : 0 ≤ b ∧ b < r) (hk : 0 ≤ k ∧ k < r) :
    Calls Tryd.prog 65 #[A3 r b s, I k] w fun e W' => e = .returned (.bool (hasS r b s k)) ∧ Below w.heap.size w W' := by
  have hmx : Tryd.prog.follows .mixedOrders = true := by kernel_rfl
  go_enter Tryd.func65, Tryd.ntmps65
  go_wp2
  have b0 := Blk.new w 87 #[I r, I b, I s]
  have x0 := Ext.cell b0 0
  have x1 := Ext.cell b0 1
  have x2 := Ext.cell b0 2
  simp at x0 x1 x2
  have hT : Below w.heap.size w (w.alloc (.cells #[I r, I b, I s] 87)) := (Below.refl _ w).alloc (Nat.le_refl _) _
  refine wp_region_look hmx (by kernel_rfl) ?_
  repeat (go_big_quiet_step ((go_at_call 71; exact calls_ext (after_calls s _ hr hb hk))))
  refine wpQuiet_nil ?_
  intro v
  go_wp2
  go_ret
  exact ⟨rfl, then_below hT v.le⟩

theorem maybe_calls (r b s : Int) (w : World) :
    Calls Tryd.prog 64 #[A3 r b s] w fun e W' => e = .returned (.bool (maySB r b s)) ∧ Below w.heap.size w W' := by
  go_enter Tryd.func64, Tryd.ntmps64
  go_wp2
  all_goals
    go_ret
    refine ⟨?_, (Below.refl _ w).alloc (Nat.le_refl _) _⟩
    simp [maySB, *]
    try omega

theorem three_start (w : World) (u0 u1 u2 : Array Value) (t0 t1 t2 : TypeId) :
    ∃ W : World, ((w.alloc (.cells u0 t0)).alloc (.cells u1 t1)).alloc (.cells u2 t2) = W ∧ W.heap.size = w.heap.size + 3 ∧ Below w.heap.size w W ∧ Blk W w.heap.size t0 u0 ∧ Blk W (w.heap.size + 1) t1 u1 ∧ Blk W (w.heap.size + 1 + 1) t2 u2 := by
  obtain ⟨W, hW, hB, b0, b1⟩ := two_start w u0 u1 t0 t1
  refine ⟨_, rfl, by simp, ?_, ?_, ?_, ?_⟩
  · rw [hW]; exact then_alloc hB _
  · rw [hW]; exact b0.alloc _
  · rw [hW]; exact b1.alloc _
  · have := Blk.new ((w.alloc (.cells u0 t0)).alloc (.cells u1 t1)) t2 u2; simpa using this

set_option maxHeartbeats 1000000 in
theorem side_calls (d0 d1 d2 : Int) (b : Bx) (k : Fin 3) (w : World) :
    Calls Tryd.prog 50 #[A3 d0 d1 d2, B6 b, I (axI k)] w fun e W' => e = .returned (A3 (dimAt d0 d1 d2 k) (bAt b k) (sAt b k)) ∧ Below w.heap.size w W' := by
  have hmx : Tryd.prog.follows .mixedOrders = true := by kernel_rfl
  rcases fin3 k with rfl | rfl | rfl
  all_goals
    simp only [axI, bAt, sAt, dimAt]
    go_enter Tryd.func50, Tryd.ntmps50
    go_wp2
    obtain ⟨W, hW, hs, hB0, b0, b1, b2⟩ := three_start w #[I d0, I d1, I d2] #[I b.x, I b.y, I b.z, I b.a, I b.b, I b.c] #[I 0, I 0, I 0] 26 29 87
    rw [hW]
    clear hW
    have x0 := Ext.cell b0 0
    have x1 := Ext.cell b0 1
    have x2 := Ext.cell b0 2
    have y0 := Ext.cell b1 0
    have y1 := Ext.cell b1 1
    have y2 := Ext.cell b1 2
    have y3 := Ext.cell b1 3
    have y4 := Ext.cell b1 4
    have y5 := Ext.cell b1 5
    simp at x0 x1 x2 y0 y1 y2 y3 y4 y5
    refine wp_region_tail 12 hmx (by kernel_rfl) ?_
    simp only [List.take_succ_cons, List.take_zero, List.drop_succ_cons, List.drop_zero]
    repeat (go_big_quiet_step (fail))
    refine wpQuiet_nil ?_
    intro v
    have q2 := b2.later v.le
    obtain ⟨c0, c1, c2, f0, f1, f2⟩ := q2.row
    gi_wp2
  · have hBX := below_set3 (below_ext hB0 v) (show w.heap.size ≤ w.heap.size + 1 + 1 by omega) (I d0) (I b.x) (I b.a)
    obtain ⟨j0, j1, j2, _, _, _⟩ := (q2.set3 (I d0) (I b.x) (I b.a)).row
    go_wp2
    exact bodyPost_ret (v := A3 d0 b.x b.a) (by simp [results, Tryd.f50, go_sem, j0, j1, j2]) rfl ⟨rfl, hBX⟩
  · have hBX := below_set3 (below_ext hB0 v) (show w.heap.size ≤ w.heap.size + 1 + 1 by omega) (I d1) (I b.y) (I b.b)
    obtain ⟨j0, j1, j2, _, _, _⟩ := (q2.set3 (I d1) (I b.y) (I b.b)).row
    go_wp2
    exact bodyPost_ret (v := A3 d1 b.y b.b) (by simp [results, Tryd.f50, go_sem, j0, j1, j2]) rfl ⟨rfl, hBX⟩
  · have hBX := below_set3 (below_ext hB0 v) (show w.heap.size ≤ w.heap.size + 1 + 1 by omega) (I d2) (I b.z) (I b.c)
    obtain ⟨j0, j1, j2, _, _, _⟩ := (q2.set3 (I d2) (I b.z) (I b.c)).row
    go_wp2
    exact bodyPost_ret (v := A3 d2 b.z b.c) (by simp [results, Tryd.f50, go_sem, j0, j1, j2]) rfl ⟨rfl, hBX⟩

theorem side_any (d0 d1 d2 x y z a b c : Int) (k : Fin 3) (w : World) :
    Calls Tryd.prog 50 #[A3 d0 d1 d2, .agg #[I x, I y, I z, I a, I b, I c], I (axI k)] w fun e W' => e = .returned (A3 (dimAt d0 d1 d2 k) (dimAt x y z k) (dimAt a b c k)) ∧ Below w.heap.size w W' :=
  side_calls d0 d1 d2 ⟨x, y, z, a, b, c⟩ k w

end Go.Proofs.YtbedhpooeabehaaDoor

/-
  box.along and the four closures that it is handed; box.check, of one box and of two.
-/
namespace Go.Proofs.YtbedhpooeabehaaDoor
open Go.RowKit Go.Shelf

attribute [local go_sem] Oper.semAt_some ext_const

/-- A closure answers p of each axis, in every world that keeps what lay in w. -/
def Answers (f : FuncId) (caps : Array Value) (w : World) (p : Fin 3 → Bool) : Prop :=
  ∀ (x : Ext w) (k : Fin 3), Calls Tryd.prog f (#[I (axI k)] ++ caps) x.wd fun e W' => e = .returned (.bool (p k)) ∧ Below x.wd.heap.size x.wd W'

set_option maxRecDepth 100000 in
set_option maxHeartbeats 2000000 in
theorem along_ck {f : FuncId} {caps : Array Value} {p : Fin 3 → Bool} (w : World) (hf : f = 63 ∧ ∃ a b, caps = #[a, b]) (h : Answers f caps w p) :
    Calls Tryd.prog 62 #[.func (.func f) #[] caps] w fun e W' => e = .returned (.bool (p 0 && p 1 && p 2)) ∧ Below w.heap.size w W' := by
  have H : Hid (Answers f caps w p) := h
  clear h
  obtain ⟨rfl, a, b, rfl⟩ := hf
  all_goals
    go_enter Tryd.func62, Tryd.ntmps62
    go_wp2
    go_loopw [4] (fun i wr => ((i = .int .i64 0 ∧ True) ∨ (i = .int .i64 1 ∧ p 0 = true) ∨ (i = .int .i64 2 ∧ p 0 = true ∧ p 1 = true) ∨ (i = .int .i64 3 ∧ p 0 = true ∧ p 1 = true ∧ p 2 = true)) ∧ Below w.heap.size w wr) (fun i _ => 3 - (RowKit.intOf i).toNat)
    case atStart => exact ⟨.inl ⟨rfl, trivial⟩, Below.refl _ _⟩
    case round =>
      obtain ⟨hi, hT⟩ := hrel
      rcases hi with ⟨rfl, _⟩ | ⟨rfl, h0⟩ | ⟨rfl, h0, h1⟩ | ⟨rfl, h0, h1, h2⟩
      · go_wp2_with fail
        refine (H.out ⟨wr, hT⟩ 0).mono ?_
        rintro e w1 ⟨rfl, hB⟩
        cases hp : p 0
        · go_wp2
          go_ret
          exact ⟨by simp [hp], then_below hT hB⟩
        · go_wp2
          go_roundw
          case rel => exact ⟨.inr (.inl ⟨rfl, hp⟩), then_below hT hB⟩
          case measure => simp [RowKit.intOf]
      · go_wp2_with fail
        refine (H.out ⟨wr, hT⟩ 1).mono ?_
        rintro e w1 ⟨rfl, hB⟩
        cases hp : p 1
        · go_wp2
          go_ret
          exact ⟨by simp [hp], then_below hT hB⟩
        · go_wp2
          go_roundw
          case rel => exact ⟨.inr (.inr (.inl ⟨rfl, h0, hp⟩)), then_below hT hB⟩
          case measure => simp [RowKit.intOf]
      · go_wp2_with fail
        refine (H.out ⟨wr, hT⟩ 2).mono ?_
        rintro e w1 ⟨rfl, hB⟩
        cases hp : p 2
        · go_wp2
          go_ret
          exact ⟨by simp [hp], then_below hT hB⟩
        · go_wp2
          go_roundw
          case rel => exact ⟨.inr (.inr (.inr ⟨rfl, h0, h1, hp⟩)), then_below hT hB⟩
          case measure => simp [RowKit.intOf]
      · go_wp2
        go_ret
        exact ⟨by simp [h0, h1, h2], hT⟩

theorem ans_check {w : World} {D B : Nat} {d0 d1 d2 : Int} {b : Bx} (hd : Blk w D 26 #[I d0, I d1, I d2]) (hb : Blk w B 29 #[I b.x, I b.y, I b.z, I b.a, I b.b, I b.c]) :
    Answers 63 #[.pointer (some ⟨D, 0, none⟩), .pointer (some ⟨B, 0, none⟩)] w (fun k => maySB (dimAt d0 d1 d2 k) (bAt b k) (sAt b k)) := by
  intro x k
  obtain ⟨c0, c1, c2, hz⟩ := hd.three x.le
  obtain ⟨⟨k0, k1, k2⟩, ⟨k3, k4, k5⟩, hz1⟩ := hb.six x.le
  simp only [List.append_toArray, List.cons_append, List.nil_append]
  go_enter Tryd.func63, Tryd.ntmps63
  go_wp2_with fail
  refine (side_calls d0 d1 d2 b k _).mono ?_
  rintro e w1 ⟨rfl, hB1⟩
  go_wp2_with fail
  refine (maybe_calls _ _ _ _).mono ?_
  rintro e w2 ⟨rfl, hB2⟩
  go_wp2
  go_ret
  exact ⟨rfl, then_below hB1 hB2⟩

end Go.Proofs.YtbedhpooeabehaaDoor

/-
  box.check, of one box and of two; box.Check: what each call answers.
-/
namespace Go.Proofs.YtbedhpooeabehaaDoor
open Go.RowKit Go.Shelf

attribute [local go_sem] Oper.semAt_some ext_const

def codeOf (b : Bool) : Int := if b then 0 else 2

theorem chk_bad {d0 d1 d2 : Int} (v : Value) (w : World) (hm : ¬ mayD d0 d1 d2) :
    Calls Tryd.prog 49 #[A3 d0 d1 d2, v] w fun e W' => e = .returned (I 8) ∧ Below w.heap.size w W' := by
  go_enter Tryd.func49, Tryd.ntmps49
  go_wp2_with fail
  refine (check_no _ hm).mono ?_
  rintro e w1 ⟨rfl, hB⟩
  go_wp2
  go_ret
  exact ⟨rfl, then_below ((Below.refl _ w).alloc (Nat.le_refl _) _) hB⟩

/-- The calls of box.along in box.check. -/
theorem along_check {w : World} {D B : Nat} {d0 d1 d2 : Int} {b : Bx} (hd : Blk w D 26 #[I d0, I d1, I d2]) (hb : Blk w B 29 #[I b.x, I b.y, I b.z, I b.a, I b.b, I b.c]) :
    Calls Tryd.prog 62 #[.func (.func 63) #[] #[.pointer (some ⟨D, 0, none⟩), .pointer (some ⟨B, 0, none⟩)]] w fun e W' => e = .returned (.bool (mayBB d0 d1 d2 b)) ∧ Below w.heap.size w W' :=
  along_ck w ⟨rfl, _, _, rfl⟩ (ans_check hd hb)

set_option maxRecDepth 100000 in
set_option maxHeartbeats 2000000 in
theorem chk_one {d0 d1 d2 : Int} {b : Bx} (S : Nat) (w : World) (hm : mayD d0 d1 d2) (hS : Blk w S 29 #[I b.x, I b.y, I b.z, I b.a, I b.b, I b.c]) :
    Calls Tryd.prog 49 #[A3 d0 d1 d2, .slice (some ⟨S, 0, none⟩) 1 1] w fun e W' => e = .returned (I (codeOf (mayBB d0 d1 d2 b))) ∧ Below w.heap.size w W' := by
  go_enter Tryd.func49, Tryd.ntmps49
  go_wp2_with fail
  have hB0 : Below w.heap.size w (w.alloc (.cells #[I d0, I d1, I d2] 26)) := (Below.refl _ w).alloc (Nat.le_refl _) _
  have b0 := Blk.new w 26 #[I d0, I d1, I d2]
  have b1 := hS.later hB0
  generalize w.alloc (.cells #[I d0, I d1, I d2] 26) = W at *
  refine (check_yes _ hm).mono ?_
  rintro e w1 ⟨rfl, hT⟩
  go_wp2_with fail
  go_loopw [16] (fun i wr => ((i = .int .i64 0) ∨ (i = .int .i64 1 ∧ mayBB d0 d1 d2 b = true)) ∧ Below W.heap.size W wr) (fun i _ => 1 - (RowKit.intOf i).toNat)
  case atStart => exact ⟨.inl rfl, hT⟩
  case round =>
    obtain ⟨hi, hT⟩ := hrel
    rcases hi with rfl | ⟨rfl, h0⟩
    · obtain ⟨⟨k0, k1, k2⟩, ⟨k3, k4, k5⟩, hz1⟩ := b1.six hT
      go_wp2_with fail
      have q0 := (b0.later hT).alloc (.cells #[I b.x, I b.y, I b.z, I b.a, I b.b, I b.c] 29)
      have q1 := Blk.new wr 29 #[I b.x, I b.y, I b.z, I b.a, I b.b, I b.c]
      have hT := then_alloc hT (.cells #[I b.x, I b.y, I b.z, I b.a, I b.b, I b.c] 29)
      refine (along_check q0 q1).mono ?_
      rintro e w2 ⟨rfl, hB⟩
      cases hp : mayBB d0 d1 d2 b
      · go_wp2
        go_ret
        exact ⟨by simp [codeOf, hp], then_below hB0 (then_below hT hB)⟩
      · go_wp2
        go_roundw
        case rel => exact ⟨.inr ⟨rfl, hp⟩, then_below hT hB⟩
        case measure => simp [RowKit.intOf]
    · go_wp2
      go_ret
      exact ⟨by simp [codeOf, h0], then_below hB0 hT⟩

set_option maxRecDepth 100000 in
set_option maxHeartbeats 2000000 in
theorem chk_two {d0 d1 d2 : Int} {a b : Bx} (S : Nat) (w : World) (hm : mayD d0 d1 d2) (hS : Blk w S 29 #[I a.x, I a.y, I a.z, I a.a, I a.b, I a.c, I b.x, I b.y, I b.z, I b.a, I b.b, I b.c]) :
    Calls Tryd.prog 49 #[A3 d0 d1 d2, .slice (some ⟨S, 0, none⟩) 2 2] w fun e W' => e = .returned (I (codeOf (mayBB d0 d1 d2 a && mayBB d0 d1 d2 b))) ∧ Below w.heap.size w W' := by
  go_enter Tryd.func49, Tryd.ntmps49
  go_wp2_with fail
  have hB0 : Below w.heap.size w (w.alloc (.cells #[I d0, I d1, I d2] 26)) := (Below.refl _ w).alloc (Nat.le_refl _) _
  have b0 := Blk.new w 26 #[I d0, I d1, I d2]
  have b1 := hS.later hB0
  generalize w.alloc (.cells #[I d0, I d1, I d2] 26) = W at *
  refine (check_yes _ hm).mono ?_
  rintro e w1 ⟨rfl, hT⟩
  go_wp2_with fail
  go_loopw [16] (fun i wr => ((i = .int .i64 0) ∨ (i = .int .i64 1 ∧ mayBB d0 d1 d2 a = true) ∨ (i = .int .i64 2 ∧ mayBB d0 d1 d2 a = true ∧ mayBB d0 d1 d2 b = true)) ∧ Below W.heap.size W wr) (fun i _ => 2 - (RowKit.intOf i).toNat)
  case atStart => exact ⟨.inl rfl, hT⟩
  case round =>
    obtain ⟨hi, hT⟩ := hrel
    have r1 := b1.later hT
    rcases hi with rfl | ⟨rfl, h0⟩ | ⟨rfl, h0, h1⟩
    · have k0 := r1.cell 0
      have k1 := r1.cell 1
      have k2 := r1.cell 2
      have k3 := r1.cell 3
      have k4 := r1.cell 4
      have k5 := r1.cell 5
      simp at k0 k1 k2 k3 k4 k5
      go_wp2_with fail
      have q0 := (b0.later hT).alloc (.cells #[I a.x, I a.y, I a.z, I a.a, I a.b, I a.c] 29)
      have q1 := Blk.new wr 29 #[I a.x, I a.y, I a.z, I a.a, I a.b, I a.c]
      have hT := then_alloc hT (.cells #[I a.x, I a.y, I a.z, I a.a, I a.b, I a.c] 29)
      refine (along_check q0 q1).mono ?_
      rintro e w2 ⟨rfl, hB⟩
      cases hp : mayBB d0 d1 d2 a
      · go_wp2
        go_ret
        exact ⟨by simp [codeOf, hp], then_below hB0 (then_below hT hB)⟩
      · go_wp2
        go_roundw
        case rel => exact ⟨.inr (.inl ⟨rfl, hp⟩), then_below hT hB⟩
        case measure => simp [RowKit.intOf]
    · have k0 := r1.cell 6
      have k1 := r1.cell 7
      have k2 := r1.cell 8
      have k3 := r1.cell 9
      have k4 := r1.cell 10
      have k5 := r1.cell 11
      simp at k0 k1 k2 k3 k4 k5
      go_wp2_with fail
      have q0 := (b0.later hT).alloc (.cells #[I b.x, I b.y, I b.z, I b.a, I b.b, I b.c] 29)
      have q1 := Blk.new wr 29 #[I b.x, I b.y, I b.z, I b.a, I b.b, I b.c]
      have hT := then_alloc hT (.cells #[I b.x, I b.y, I b.z, I b.a, I b.b, I b.c] 29)
      refine (along_check q0 q1).mono ?_
      rintro e w2 ⟨rfl, hB⟩
      cases hp : mayBB d0 d1 d2 b
      · go_wp2
        go_ret
        exact ⟨by simp [codeOf, hp], then_below hB0 (then_below hT hB)⟩
      · go_wp2
        go_roundw
        case rel => exact ⟨.inr (.inr ⟨rfl, h0, hp⟩), then_below hT hB⟩
        case measure => simp [RowKit.intOf]
    · go_wp2
      go_ret
      exact ⟨by simp [codeOf, h0, h1], then_below hB0 hT⟩

/-- The error of a box. -/
def errB (d0 d1 d2 : Int) (b : Bx) : Int := if okDB d0 d1 d2 then codeOf (mayBB d0 d1 d2 b) else 8
def errB2 (d0 d1 d2 : Int) (a b : Bx) : Int := if okDB d0 d1 d2 then codeOf (mayBB d0 d1 d2 a && mayBB d0 d1 d2 b) else 8

theorem chk1 {d0 d1 d2 : Int} {b : Bx} (S : Nat) (w : World) (hS : Blk w S 29 #[I b.x, I b.y, I b.z, I b.a, I b.b, I b.c]) :
    Calls Tryd.prog 49 #[A3 d0 d1 d2, .slice (some ⟨S, 0, none⟩) 1 1] w fun e W' => e = .returned (I (errB d0 d1 d2 b)) ∧ Below w.heap.size w W' := by
  by_cases hm : mayD d0 d1 d2
  · rw [errB, if_pos ((okDB_iff _ _ _).2 hm)]; exact chk_one S w hm hS
  · rw [errB, if_neg (by rw [okDB_iff]; exact hm)]; exact chk_bad _ w hm
theorem chk2 {d0 d1 d2 : Int} {a b : Bx} (S : Nat) (w : World) (hS : Blk w S 29 #[I a.x, I a.y, I a.z, I a.a, I a.b, I a.c, I b.x, I b.y, I b.z, I b.a, I b.b, I b.c]) :
    Calls Tryd.prog 49 #[A3 d0 d1 d2, .slice (some ⟨S, 0, none⟩) 2 2] w fun e W' => e = .returned (I (errB2 d0 d1 d2 a b)) ∧ Below w.heap.size w W' := by
  by_cases hm : mayD d0 d1 d2
  · rw [errB2, if_pos ((okDB_iff _ _ _).2 hm)]; exact chk_two S w hm hS
  · rw [errB2, if_neg (by rw [okDB_iff]; exact hm)]; exact chk_bad _ w hm

end Go.Proofs.YtbedhpooeabehaaDoor

/-
  box.side's coords: the coordinates of a side, rising, in new memory.
-/
namespace Go.Proofs.YtbedhpooeabehaaDoor
open Go.RowKit Go.Shelf

attribute [local go_sem] Oper.semAt_some ext_const

def coordsTo (r b s : Int) (k : Nat) : List Int := ((List.range k).filter (fun j : Nat => hasS r b s j)).map (fun j : Nat => (j : Int))
def coordsS (r b s : Int) : List Int := coordsTo r b s r.toNat
theorem coordsTo_len (r b s : Int) (k : Nat) : (coordsTo r b s k).length ≤ k := by
  have := List.length_filter_le (fun j : Nat => hasS r b s j) (List.range k)
  simpa [coordsTo] using this
theorem coordsTo_yes {r b s : Int} {k : Nat} (h : hasS r b s k = true) : coordsTo r b s (k + 1) = coordsTo r b s k ++ [(k : Int)] := by
  simp [coordsTo, List.range_succ, List.filter_append, h]
theorem coordsTo_no {r b s : Int} {k : Nat} (h : hasS r b s k = false) : coordsTo r b s (k + 1) = coordsTo r b s k := by
  simp [coordsTo, List.range_succ, List.filter_append, h]

set_option maxRecDepth 100000 in
set_option maxHeartbeats 2000000 in
theorem coords_calls {r b s : Int} (w : World) (hr : r ≤ 16) (h : mayS r b s) :
    Calls Tryd.prog 51 #[A3 r b s] w fun e W' => ∃ v, e = .returned v ∧ Lst W' w.heap.size v (coordsS r b s) ∧ Below w.heap.size w W' := by
  have HH : Hid (∀ (w : World) (k : Int), 0 ≤ k → k < r → Calls Tryd.prog 65 #[A3 r b s, I k] w fun e W' => e = .returned (.bool (hasS r b s k)) ∧ Below w.heap.size w W') :=
    fun w k h0 h1 => has_calls s w hr h.2 ⟨h0, h1⟩
  obtain ⟨⟨s0, s1⟩, b0', b1'⟩ := h
  unfold coordsS
  go_enter Tryd.func51, Tryd.ntmps51
  have hB0 : Below w.heap.size w (w.alloc (.cells #[I r, I b, I s] 87)) := (Below.refl _ w).alloc (Nat.le_refl _) _
  have b0 := Blk.new w 87 #[I r, I b, I s]
  go_wp2_with (at_make; refine wpList_mk (base := (w.alloc (.cells #[I r, I b, I s] 87)).heap.size) rfl _ _ rfl s rfl rfl (by omega) (by omega) (Nat.le_refl _) ?_; intro v1 w1 hL1 hT1; obtain ⟨c0, c1, c2, hz⟩ := b0.three hT1)
  generalize w.alloc (.cells #[I r, I b, I s] 87) = W at *
  clear c0 c1 c2 hz
  go_loopw [3, 10] (fun v i wr => ∃ k : Nat, (k : Int) ≤ r ∧ i = .int .i64 k ∧ Lst wr W.heap.size v (coordsTo r b s k) ∧ Below W.heap.size W wr) (fun _ i _ => r.toNat - (RowKit.intOf i).toNat)
  case atStart => exact ⟨0, by omega, rfl, hL1, hT1⟩
  case round =>
    clear hL1 hT1
    obtain ⟨k, hk, rfl, hL, hT⟩ := hrel
    obtain ⟨c0, c1, c2, hz⟩ := b0.three hT
    by_cases hlt : (k : Int) < r
    · go_wp2_with fail
      refine (HH.out _ k (by omega) hlt).mono ?_
      rintro e w2 ⟨rfl, hB2⟩
      have hL := hL.later hB2
      have hT := then_below hT hB2
      clear c0 c1 c2 hz hB2
      cases hq : hasS r b s k
      · go_wp2
        go_roundw
        case rel => exact ⟨k + 1, by omega, by go_num, by rw [coordsTo_no hq]; exact hL, hT⟩
        case measure => simp [RowKit.intOf]; omega
      · go_wp2_with (at_builtin; refine wpList_app rfl _ _ rfl rfl rfl hL (by have := coordsTo_len r b s k; omega) hT.size ?_; intro v' w3 hL3 hT3)
        have hT := hT.trans hT3
        rw [← coordsTo_yes hq] at hL3
        clear hT3 hL
        go_roundw
        case rel => exact ⟨k + 1, by omega, by go_num, hL3, hT⟩
        case measure => simp [RowKit.intOf]; omega
    · have E : r.toNat = k := by omega
      have hL' : Lst wr w.heap.size _ (coordsTo r b s r.toNat) := (E ▸ hL).weak hB0.size
      clear hL E
      go_wp2
      go_ret
      exact ⟨_, rfl, hL', then_below hB0 hT⟩

end Go.Proofs.YtbedhpooeabehaaDoor

/-
  box.many, box.Many, box.Canon: what each call answers.
-/
namespace Go.Proofs.YtbedhpooeabehaaDoor
open Go.RowKit Go.Shelf

attribute [local go_sem] Oper.semAt_some ext_const

theorem Blk.set6 {W : World} {B : Nat} {t : TypeId} {x0 x1 x2 x3 x4 x5 : Value} (h : Blk W B t #[x0, x1, x2, x3, x4, x5]) (a b c d e f : Value) :
    Blk ((((((W.setCell ⟨B, 0, none⟩ a).setCell ⟨B, 1, none⟩ b).setCell ⟨B, 2, none⟩ c).setCell ⟨B, 3, none⟩ d).setCell ⟨B, 4, none⟩ e).setCell ⟨B, 5, none⟩ f) B t #[a, b, c, d, e, f] :=
  (((((h.set 0 a).set 1 b).set 2 c).set 3 d).set 4 e).set 5 f
theorem below_set6 {n : Nat} {w W : World} {B : Nat} (h : Below n w W) (hn : n ≤ B) (a b c d e f : Value) :
    Below n w ((((((W.setCell ⟨B, 0, none⟩ a).setCell ⟨B, 1, none⟩ b).setCell ⟨B, 2, none⟩ c).setCell ⟨B, 3, none⟩ d).setCell ⟨B, 4, none⟩ e).setCell ⟨B, 5, none⟩ f) :=
  (((((h.setCell (p := ⟨B, 0, none⟩) hn a).setCell (p := ⟨B, 1, none⟩) hn b).setCell (p := ⟨B, 2, none⟩) hn c).setCell (p := ⟨B, 3, none⟩) hn d).setCell (p := ⟨B, 4, none⟩) hn e).setCell (p := ⟨B, 5, none⟩) hn f
theorem Blk.row6 {W : World} {B : Nat} {t : TypeId} {a b c d e f : Value} (h : Blk W B t #[a, b, c, d, e, f]) :
    (W.cell? ⟨B, 0, none⟩ = some a ∧ W.cell? ⟨B, 1, none⟩ = some b ∧ W.cell? ⟨B, 2, none⟩ = some c ∧ W.cell? ⟨B, 3, none⟩ = some d ∧ W.cell? ⟨B, 4, none⟩ = some e ∧ W.cell? ⟨B, 5, none⟩ = some f) ∧
    (W.frozen? ⟨B, 0, none⟩ = false ∧ W.frozen? ⟨B, 1, none⟩ = false ∧ W.frozen? ⟨B, 2, none⟩ = false ∧ W.frozen? ⟨B, 3, none⟩ = false ∧ W.frozen? ⟨B, 4, none⟩ = false ∧ W.frozen? ⟨B, 5, none⟩ = false) :=
  ⟨⟨h.cell 0, h.cell 1, h.cell 2, h.cell 3, h.cell 4, h.cell 5⟩, h.frozen 0, h.frozen 1, h.frozen 2, h.frozen 3, h.frozen 4, h.frozen 5⟩

/-- A box that may be is small. -/
theorem sizes_bd {d0 d1 d2 : Int} {b : Bx} (hm : mayD d0 d1 d2) (hb : mayB d0 d1 d2 b) : (1 ≤ b.a ∧ b.a ≤ 16) ∧ (1 ≤ b.b ∧ b.b ≤ 16) ∧ (1 ≤ b.c ∧ b.c ≤ 16) := by
  obtain ⟨h0, h1, h2⟩ := hm
  unfold okD at h0 h1 h2
  obtain ⟨⟨g0, _⟩, ⟨g1, _⟩, ⟨g2, _⟩⟩ := hb
  omega

set_option maxHeartbeats 1000000 in
theorem bmany_calls {b : Bx} (w : World) (ha : 1 ≤ b.a ∧ b.a ≤ 16) (hb : 1 ≤ b.b ∧ b.b ≤ 16) (hc : 1 ≤ b.c ∧ b.c ≤ 16) :
    Calls Tryd.prog 52 #[B6 b] w fun e W' => e = .returned (I (manyB b)) ∧ Below w.heap.size w W' := by
  have p1 : 0 ≤ b.a * b.b ∧ b.a * b.b ≤ 16 * 16 := mul_bd (by omega) ha.2 (by omega) hb.2
  have p2 : 0 ≤ b.a * b.b * b.c ∧ b.a * b.b * b.c ≤ 16 * 16 * 16 := mul_bd p1.1 p1.2 (by omega) hc.2
  unfold manyB
  obtain ⟨a0, a1⟩ := ha
  obtain ⟨b0, b1⟩ := hb
  obtain ⟨c0, c1⟩ := hc
  obtain ⟨p10, p11⟩ := p1
  obtain ⟨p20, p21⟩ := p2
  go_enter Tryd.func52, Tryd.ntmps52
  go_wp2
  go_loop [3, 5] (fun n i => (i = .int .i64 0 ∧ n = I 1) ∨ (i = .int .i64 1 ∧ n = I b.a) ∨ (i = .int .i64 2 ∧ n = I (b.a * b.b)) ∨ (i = .int .i64 3 ∧ n = I (b.a * b.b * b.c))) (fun _ i => 3 - (RowKit.intOf i).toNat)
  case atStart => exact .inl ⟨rfl, rfl⟩
  case round =>
    rcases hrel with ⟨rfl, rfl⟩ | ⟨rfl, rfl⟩ | ⟨rfl, rfl⟩ | ⟨rfl, rfl⟩
    · go_wp2
      go_round
      case rel => exact .inr (.inl ⟨rfl, by simp⟩)
      case measure => simp [RowKit.intOf]
    · go_wp2
      go_round
      case rel => exact .inr (.inr (.inl ⟨rfl, rfl⟩))
      case measure => simp [RowKit.intOf]
    · go_wp2
      go_round
      case rel => exact .inr (.inr (.inr ⟨rfl, rfl⟩))
      case measure => simp [RowKit.intOf]
    · go_wp2
      go_ret
      exact ⟨rfl, (Below.refl _ w).alloc (Nat.le_refl _) _⟩

theorem errB_ok {d0 d1 d2 : Int} {b : Bx} (hm : mayD d0 d1 d2) (hb : mayB d0 d1 d2 b) : errB d0 d1 d2 b = 0 := by
  rw [errB, if_pos ((okDB_iff _ _ _).2 hm), (mayBB_iff _ _ _ _).2 hb]; rfl
theorem errB_no {d0 d1 d2 : Int} {b : Bx} (hm : mayD d0 d1 d2) (hb : ¬ mayB d0 d1 d2 b) : errB d0 d1 d2 b = 2 := by
  rw [errB, if_pos ((okDB_iff _ _ _).2 hm), mayBB_no hb]; rfl
theorem errB_bad {d0 d1 d2 : Int} {b : Bx} (hm : ¬ mayD d0 d1 d2) : errB d0 d1 d2 b = 8 := by
  rw [errB, if_neg (by rw [okDB_iff]; exact hm)]
theorem errB_cases (d0 d1 d2 : Int) (b : Bx) : (mayD d0 d1 d2 ∧ mayB d0 d1 d2 b ∧ errB d0 d1 d2 b = 0) ∨ ((errB d0 d1 d2 b = 2 ∨ errB d0 d1 d2 b = 8) ∧ ¬ (mayD d0 d1 d2 ∧ mayB d0 d1 d2 b)) := by
  by_cases hm : mayD d0 d1 d2
  · by_cases hb : mayB d0 d1 d2 b
    · exact .inl ⟨hm, hb, errB_ok hm hb⟩
    · exact .inr ⟨.inl (errB_no hm hb), fun h => hb h.2⟩
  · exact .inr ⟨.inr (errB_bad hm), fun h => hm h.1⟩

end Go.Proofs.YtbedhpooeabehaaDoor

/-
  box.Canon, box.Has, box.Meet, box.Within: what each call answers.
-/
namespace Go.Proofs.YtbedhpooeabehaaDoor
open Go.RowKit Go.Shelf

attribute [local go_sem] Oper.semAt_some ext_const

abbrev C6 (b : Bx) : Array Value := #[I b.x, I b.y, I b.z, I b.a, I b.b, I b.c]

theorem four_start (w : World) (u0 u1 u2 u3 : Array Value) (t0 t1 t2 t3 : TypeId) :
    ∃ W : World, (((w.alloc (.cells u0 t0)).alloc (.cells u1 t1)).alloc (.cells u2 t2)).alloc (.cells u3 t3) = W ∧ W.heap.size = w.heap.size + 4 ∧ Below w.heap.size w W ∧ Blk W w.heap.size t0 u0 ∧ Blk W (w.heap.size + 1) t1 u1 ∧ Blk W (w.heap.size + 1 + 1) t2 u2 ∧ Blk W (w.heap.size + 1 + 1 + 1) t3 u3 := by
  obtain ⟨W, hW, hs, hB, b0, b1, b2⟩ := three_start w u0 u1 u2 t0 t1 t2
  refine ⟨_, rfl, by simp, ?_, ?_, ?_, ?_, ?_⟩
  · rw [hW]; exact then_alloc hB _
  · rw [hW]; exact b0.alloc _
  · rw [hW]; exact b1.alloc _
  · rw [hW]; exact b2.alloc _
  · have := Blk.new (((w.alloc (.cells u0 t0)).alloc (.cells u1 t1)).alloc (.cells u2 t2)) t3 u3; simpa using this

set_option maxHeartbeats 1000000 in
theorem bcanon_err {d0 d1 d2 : Int} {b : Bx} (w : World) (he : (errB d0 d1 d2 b != 0) = true) :
    Calls Tryd.prog 39 #[A3 d0 d1 d2, B6 b] w fun e W' => e = .returned (.tuple #[B6 ⟨0, 0, 0, 0, 0, 0⟩, I (errB d0 d1 d2 b)]) ∧ Below w.heap.size w W' := by
  go_enter Tryd.func39, Tryd.ntmps39
  go_wp2_with fail
  obtain ⟨W, hW, hs, hB0, b0, b1, b2, b3⟩ := four_start w #[I d0, I d1, I d2] (C6 b) #[I 0, I 0, I 0, I 0, I 0, I 0] (C6 b) 26 29 29 29
  rw [hW]
  clear hW
  refine (chk1 _ _ b3).mono ?_
  rintro e w1 ⟨rfl, hT⟩
  have q2 := b2.later hT
  obtain ⟨⟨c0, c1, c2, c3, c4, c5⟩, f0, f1, f2, f3, f4, f5⟩ := q2.row6
  go_wp2
  obtain ⟨⟨j0, j1, j2, j3, j4, j5⟩, _⟩ := (q2.set6 (I 0) (I 0) (I 0) (I 0) (I 0) (I 0)).row6
  have hBX := below_set6 (then_below hB0 hT) (show w.heap.size ≤ w.heap.size + 1 + 1 by omega) (I 0) (I 0) (I 0) (I 0) (I 0) (I 0)
  exact bodyPost_ret (v := .tuple #[B6 ⟨0, 0, 0, 0, 0, 0⟩, I (errB d0 d1 d2 b)]) (by simp [results, Tryd.f39, go_sem, j0, j1, j2, j3, j4, j5]) rfl ⟨rfl, hBX⟩

set_option maxRecDepth 100000 in
set_option maxHeartbeats 4000000 in
theorem bcanon_ok {d0 d1 d2 : Int} {b : Bx} (w : World) (hm : mayD d0 d1 d2) (hb : mayB d0 d1 d2 b) :
    Calls Tryd.prog 39 #[A3 d0 d1 d2, B6 b] w fun e W' => e = .returned (.tuple #[B6 (canonB d0 d1 d2 b), I 0]) ∧ Below w.heap.size w W' := by
  have H0 : Hid (errB d0 d1 d2 b = 0) := errB_ok hm hb
  have hmx : Tryd.prog.follows .mixedOrders = true := by kernel_rfl
  obtain ⟨X, hX⟩ : ∃ X, X = (canonB d0 d1 d2 b).x := ⟨_, rfl⟩
  obtain ⟨Y, hY⟩ : ∃ Y, Y = (canonB d0 d1 d2 b).y := ⟨_, rfl⟩
  obtain ⟨Z, hZ⟩ : ∃ Z, Z = (canonB d0 d1 d2 b).z := ⟨_, rfl⟩
  have hR : B6 (canonB d0 d1 d2 b) = .agg #[I X, I Y, I Z, I b.a, I b.b, I b.c] := by rw [hX, hY, hZ]; rfl
  rw [hR]
  have HX : Hid (X = if b.a = d0 then 0 else b.x) := hX
  have HY : Hid (Y = if b.b = d1 then 0 else b.y) := hY
  have HZ : Hid (Z = if b.c = d2 then 0 else b.z) := hZ
  clear hX hY hZ hR
  go_enter Tryd.func39, Tryd.ntmps39
  go_wp2_with fail
  obtain ⟨W, hW, hs, hB0, b0, b1, b2, b3⟩ := four_start w #[I d0, I d1, I d2] (C6 b) #[I 0, I 0, I 0, I 0, I 0, I 0] (C6 b) 26 29 29 29
  rw [hW]
  clear hW
  refine (chk1 _ _ b3).mono ?_
  rintro e w1 ⟨rfl, hT⟩
  rw [H0.out]
  have g0 := b0.later hT
  have g1 := b1.later hT
  have g2 := b2.later hT
  have hB := then_below hB0 hT
  clear b0 b1 b2 b3 hT hB0
  go_wp2_with fail
  go_loopw [16] (fun i wr => ((i = .int .i64 0 ∧ Blk wr (w.heap.size + 1) 29 (C6 b)) ∨ (i = .int .i64 1 ∧ Blk wr (w.heap.size + 1) 29 #[I X, I b.y, I b.z, I b.a, I b.b, I b.c]) ∨
    (i = .int .i64 2 ∧ Blk wr (w.heap.size + 1) 29 #[I X, I Y, I b.z, I b.a, I b.b, I b.c]) ∨ (i = .int .i64 3 ∧ Blk wr (w.heap.size + 1) 29 #[I X, I Y, I Z, I b.a, I b.b, I b.c])) ∧
    Blk wr w.heap.size 26 #[I d0, I d1, I d2] ∧ Blk wr (w.heap.size + 1 + 1) 29 #[I 0, I 0, I 0, I 0, I 0, I 0] ∧ Below w.heap.size w wr) (fun i _ => 3 - (RowKit.intOf i).toNat)
  case atStart => exact ⟨.inl ⟨rfl, g1⟩, g0, g2, hB⟩
  case round =>
    clear g0 g1 g2 hB
    obtain ⟨hi, g0, g2, hB⟩ := hrel
    have x0 := Ext.cell g0 0
    have x1 := Ext.cell g0 1
    have x2 := Ext.cell g0 2
    simp at x0 x1 x2
    rcases hi with ⟨rfl, g1⟩ | ⟨rfl, g1⟩ | ⟨rfl, g1⟩ | ⟨rfl, g1⟩
    · have y3 := Ext.cell g1 3
      simp at y3
      cases hq : b.a == d0
      · have E : X = b.x := by rw [HX.out, if_neg (by simpa using hq)]
        subst E
        go_wp2
        refine wp_region_look hmx (by kernel_rfl) ?_
        repeat (go_big_quiet_step (fail))
        refine wpQuiet_nil ?_
        intro v
        go_wp2
        go_roundw
        case rel => exact ⟨.inr (.inl ⟨rfl, g1.later v.le⟩), g0.later v.le, g2.later v.le, then_below hB v.le⟩
        case measure => simp [RowKit.intOf]
      · have E : X = 0 := by rw [HX.out, if_pos (by simpa using hq)]
        subst E
        go_wp2
        refine wp_region_look hmx (by kernel_rfl) ?_
        repeat (go_big_quiet_step (fail))
        refine wpQuiet_nil ?_
        intro v
        have q1 := g1.later v.le
        obtain ⟨⟨c0, c1, c2, c3, c4, c5⟩, f0, f1, f2, f3, f4, f5⟩ := q1.row6
        go_wp2
        go_roundw
        case rel => exact ⟨.inr (.inl ⟨rfl, q1.set 0 (I 0)⟩), (g0.later v.le).other _ _ (by omega), (g2.later v.le).other _ _ (by omega), (then_below hB v.le).setCell (p := ⟨w.heap.size + 1, 0, none⟩) (by simp) _⟩
        case measure => simp [RowKit.intOf]
    · have y3 := Ext.cell g1 4
      simp at y3
      cases hq : b.b == d1
      · have E : Y = b.y := by rw [HY.out, if_neg (by simpa using hq)]
        subst E
        go_wp2
        refine wp_region_look hmx (by kernel_rfl) ?_
        repeat (go_big_quiet_step (fail))
        refine wpQuiet_nil ?_
        intro v
        go_wp2
        go_roundw
        case rel => exact ⟨.inr (.inr (.inl ⟨rfl, g1.later v.le⟩)), g0.later v.le, g2.later v.le, then_below hB v.le⟩
        case measure => simp [RowKit.intOf]
      · have E : Y = 0 := by rw [HY.out, if_pos (by simpa using hq)]
        subst E
        go_wp2
        refine wp_region_look hmx (by kernel_rfl) ?_
        repeat (go_big_quiet_step (fail))
        refine wpQuiet_nil ?_
        intro v
        have q1 := g1.later v.le
        obtain ⟨⟨c0, c1, c2, c3, c4, c5⟩, f0, f1, f2, f3, f4, f5⟩ := q1.row6
        go_wp2
        go_roundw
        case rel => exact ⟨.inr (.inr (.inl ⟨rfl, q1.set 1 (I 0)⟩)), (g0.later v.le).other _ _ (by omega), (g2.later v.le).other _ _ (by omega), (then_below hB v.le).setCell (p := ⟨w.heap.size + 1, 1, none⟩) (by simp) _⟩
        case measure => simp [RowKit.intOf]
    · have y3 := Ext.cell g1 5
      simp at y3
      cases hq : b.c == d2
      · have E : Z = b.z := by rw [HZ.out, if_neg (by simpa using hq)]
        subst E
        go_wp2
        refine wp_region_look hmx (by kernel_rfl) ?_
        repeat (go_big_quiet_step (fail))
        refine wpQuiet_nil ?_
        intro v
        go_wp2
        go_roundw
        case rel => exact ⟨.inr (.inr (.inr ⟨rfl, g1.later v.le⟩)), g0.later v.le, g2.later v.le, then_below hB v.le⟩
        case measure => simp [RowKit.intOf]
      · have E : Z = 0 := by rw [HZ.out, if_pos (by simpa using hq)]
        subst E
        go_wp2
        refine wp_region_look hmx (by kernel_rfl) ?_
        repeat (go_big_quiet_step (fail))
        refine wpQuiet_nil ?_
        intro v
        have q1 := g1.later v.le
        obtain ⟨⟨c0, c1, c2, c3, c4, c5⟩, f0, f1, f2, f3, f4, f5⟩ := q1.row6
        go_wp2
        go_roundw
        case rel => exact ⟨.inr (.inr (.inr ⟨rfl, q1.set 2 (I 0)⟩)), (g0.later v.le).other _ _ (by omega), (g2.later v.le).other _ _ (by omega), (then_below hB v.le).setCell (p := ⟨w.heap.size + 1, 2, none⟩) (by simp) _⟩
        case measure => simp [RowKit.intOf]
    · obtain ⟨⟨c0, c1, c2, c3, c4, c5⟩, _⟩ := g1.row6
      obtain ⟨⟨k0, k1, k2, k3, k4, k5⟩, f0, f1, f2, f3, f4, f5⟩ := g2.row6
      clear x0 x1 x2
      go_wp2
      obtain ⟨⟨j0, j1, j2, j3, j4, j5⟩, _⟩ := (g2.set6 (I X) (I Y) (I Z) (I b.a) (I b.b) (I b.c)).row6
      have hBX := below_set6 hB (show w.heap.size ≤ w.heap.size + 1 + 1 by omega) (I X) (I Y) (I Z) (I b.a) (I b.b) (I b.c)
      exact bodyPost_ret (v := .tuple #[.agg #[I X, I Y, I Z, I b.a, I b.b, I b.c], I 0]) (by simp [results, Tryd.f39, go_sem, j0, j1, j2, j3, j4, j5]) rfl ⟨rfl, hBX⟩

theorem errB2_ok {d0 d1 d2 : Int} {a b : Bx} (hm : mayD d0 d1 d2) (ha : mayB d0 d1 d2 a) (hb : mayB d0 d1 d2 b) : errB2 d0 d1 d2 a b = 0 := by
  rw [errB2, if_pos ((okDB_iff _ _ _).2 hm), (mayBB_iff _ _ _ _).2 ha, (mayBB_iff _ _ _ _).2 hb]; rfl
theorem errB2_no {d0 d1 d2 : Int} {a b : Bx} (hm : mayD d0 d1 d2) (hb : ¬ (mayB d0 d1 d2 a ∧ mayB d0 d1 d2 b)) : errB2 d0 d1 d2 a b = 2 := by
  rw [errB2, if_pos ((okDB_iff _ _ _).2 hm), show (mayBB d0 d1 d2 a && mayBB d0 d1 d2 b) = false by rw [← Bool.not_eq_true, Bool.and_eq_true, mayBB_iff, mayBB_iff]; exact hb]; rfl
theorem errB2_bad {d0 d1 d2 : Int} {a b : Bx} (hm : ¬ mayD d0 d1 d2) : errB2 d0 d1 d2 a b = 8 := by
  rw [errB2, if_neg (by rw [okDB_iff]; exact hm)]

end Go.Proofs.YtbedhpooeabehaaDoor

/-
  What the document's own answer for layer 1 (tidehallref01) gives, for every input: dimensions, how many, the midplane at coordinates, the coordinates of one.
-/
namespace Go.Proofs.YtbedhpooeabehaaDoor
open Go.RowKit Go.Shelf

attribute [local go_sem] Oper.semAt_some ext_const eq_arr

end Go.Proofs.YtbedhpooeabehaaDoor

/-
  What the document's own answer for layer 2 (tidehallref02) gives: May, Check, Told, Canon, Many, both.
-/
namespace Go.Proofs.YtbedhpooeabehaaDoor
open Go.RowKit Go.Shelf

attribute [local go_sem] Oper.semAt_some ext_const

theorem four_way (d s b : Int) : (s < 1 ∧ Hid (maySB d b s = false)) ∨ (decide (s < 1) = false ∧ d < s ∧ Hid (maySB d b s = false)) ∨ (decide (s < 1) = false ∧ decide (d < s) = false ∧ b < 0 ∧ Hid (maySB d b s = false)) ∨
    (decide (s < 1) = false ∧ decide (d < s) = false ∧ decide (b < 0) = false ∧ d ≤ b ∧ Hid (maySB d b s = false)) ∨
    (decide (s < 1) = false ∧ decide (d < s) = false ∧ decide (b < 0) = false ∧ decide (d ≤ b) = false ∧ Hid (maySB d b s = true)) := by
  have no : (s < 1 ∨ d < s ∨ b < 0 ∨ d ≤ b) → Hid (maySB d b s = false) := fun h => by
    show _ = _
    rw [← Bool.not_eq_true, maySB_iff]
    unfold mayS
    omega
  have yes : (¬ s < 1 ∧ ¬ d < s ∧ ¬ b < 0 ∧ ¬ d ≤ b) → Hid (maySB d b s = true) := fun h => (maySB_iff _ _ _).2 (by unfold mayS; omega)
  simp only [decide_eq_false_iff_not]
  by_cases h1 : s < 1
  · exact .inl ⟨h1, no (.inl h1)⟩
  · by_cases h2 : d < s
    · exact .inr (.inl ⟨h1, h2, no (.inr (.inl h2))⟩)
    · by_cases h3 : b < 0
      · exact .inr (.inr (.inl ⟨h1, h2, h3, no (.inr (.inr (.inl h3)))⟩))
      · by_cases h4 : d ≤ b
        · exact .inr (.inr (.inr (.inl ⟨h1, h2, h3, h4, no (.inr (.inr (.inr h4)))⟩)))
        · exact .inr (.inr (.inr (.inr ⟨h1, h2, h3, h4, yes ⟨h1, h2, h3, h4⟩⟩)))

theorem errB2_eq (d0 d1 d2 : Int) (a b : Bx) : (errB d0 d1 d2 a = 0 ∧ errB2 d0 d1 d2 a b = errB d0 d1 d2 b) ∨ ((errB d0 d1 d2 a != 0) = true ∧ errB2 d0 d1 d2 a b = errB d0 d1 d2 a) := by
  unfold errB errB2 codeOf
  cases okDB d0 d1 d2 <;> cases mayBB d0 d1 d2 a <;> cases mayBB d0 d1 d2 b <;> simp

end Go.Proofs.YtbedhpooeabehaaDoor

/-
  What the document's own answer for layer 2 (tidehallref02) gives: Told, Canon, Many.
-/
namespace Go.Proofs.YtbedhpooeabehaaDoor
open Go.RowKit Go.Shelf

attribute [local go_sem] Oper.semAt_some ext_const

end Go.Proofs.YtbedhpooeabehaaDoor

/-
  What the document's own answer for layer 2 (tidehallref02) gives: In, Has.
-/
namespace Go.Proofs.YtbedhpooeabehaaDoor
open Go.RowKit Go.Shelf

attribute [local go_sem] Oper.semAt_some ext_const

/-- One of the first n steps on from b is p. -/
def thereS (r b p : Int) (n : Nat) : Bool := (List.range n).any fun j => (b + (j : Int)) % r == p
theorem thereS_succ (r b p : Int) (n : Nat) : thereS r b p (n + 1) = (thereS r b p n || (b + (n : Int)) % r == p) := by
  simp [thereS, List.range_succ, List.any_append]
theorem thereS_all {r b s p : Int} {n : Nat} (h : mayS r b s) (hp : 0 ≤ p ∧ p < r) (hn : (n : Int) = s) : thereS r b p n = hasS r b s p := by
  rw [Bool.eq_iff_iff, hasS_iff h hp, thereS, List.any_eq_true]
  constructor
  · rintro ⟨j, hj, he⟩
    exact ⟨j, by omega, by have := List.mem_range.1 hj; omega, by simpa using he⟩
  · rintro ⟨j, j0, j1, he⟩
    exact ⟨j.toNat, List.mem_range.2 (by omega), by rw [Int.toNat_of_nonneg j0]; simpa using he⟩

end Go.Proofs.YtbedhpooeabehaaDoor

/-
  What the document's own answer for layer 2 (tidehallref02) gives: All, Nodes: a box's midplanes, rising, in new memory.
-/
namespace Go.Proofs.YtbedhpooeabehaaDoor
open Go.RowKit Go.Shelf

attribute [local go_sem] Oper.semAt_some ext_const

/-- Of the first k midplanes those of a box. -/
def nodesTo (d0 d1 d2 : Int) (b : Bx) (k : Nat) : List Int := ((List.range k).filter (fun m : Nat => hasB d0 d1 d2 b m)).map (fun m : Nat => (m : Int))
def nodesB (d0 d1 d2 : Int) (b : Bx) : List Int := nodesTo d0 d1 d2 b (d0 * d1 * d2).toNat
theorem nodesTo_len (d0 d1 d2 : Int) (b : Bx) (k : Nat) : (nodesTo d0 d1 d2 b k).length ≤ k := by
  have := List.length_filter_le (fun m : Nat => hasB d0 d1 d2 b m) (List.range k)
  simpa [nodesTo] using this
theorem nodesTo_yes {d0 d1 d2 : Int} {b : Bx} {k : Nat} (h : hasB d0 d1 d2 b k = true) : nodesTo d0 d1 d2 b (k + 1) = nodesTo d0 d1 d2 b k ++ [(k : Int)] := by
  simp [nodesTo, List.range_succ, List.filter_append, h]
theorem nodesTo_no {d0 d1 d2 : Int} {b : Bx} {k : Nat} (h : hasB d0 d1 d2 b k = false) : nodesTo d0 d1 d2 b (k + 1) = nodesTo d0 d1 d2 b k := by
  simp [nodesTo, List.range_succ, List.filter_append, h]
theorem nodesB_len {d0 d1 d2 : Int} (hm : mayD d0 d1 d2) (b : Bx) : (nodesB d0 d1 d2 b).length ≤ 4096 := by
  have h1 := nodesTo_len d0 d1 d2 b (d0 * d1 * d2).toNat
  have h2 := N_bd hm
  unfold nodesB
  omega

end Go.Proofs.YtbedhpooeabehaaDoor

/-
  box.many, box.Many, box.Canon: what each call answers.
-/
import Derived.Test.YtjmfdpilmljppaaPart4
import Derived.Test.YtjmfdpilmljppaaPart3
import Derived.Test.YtjmfdpilmljppaaPart1
import Derived.Test.YtjmfdpilmljppaaProg
import Derived.ChangeKeysEq
import Derived.KernelRfl
import Derived.Test.YtjmfdpilmljppaaPart2
namespace Go.Proofs.Ytjmfdpilmljppaa
open Go.RowKit Go.Shelf

attribute [local go_sem] Oper.semAt_some ext_const

theorem Blk.set6 {W : World} {B : Nat} {t : TypeId} {x0 x1 x2 x3 x4 x5 : Value} (h : Blk W B t #[x0, x1, x2, x3, x4, x5]) (a b c d e f : Value) :
    Blk ((((((W.setCell ⟨B, 0, none⟩ a).setCell ⟨B, 1, none⟩ b).setCell ⟨B, 2, none⟩ c).setCell ⟨B, 3, none⟩ d).setCell ⟨B, 4, none⟩ e).setCell ⟨B, 5, none⟩ f) B t #[a, b, c, d, e, f] :=
  (((((h.set 0 a).set 1 b).set 2 c).set 3 d).set 4 e).set 5 f
theorem below_set6 {n : Nat} {w W : World} {B : Nat} (h : Below n w W) (hn : n ≤ B) (a b c d e f : Value) :
    Below n w ((((((W.setCell ⟨B, 0, none⟩ a).setCell ⟨B, 1, none⟩ b).setCell ⟨B, 2, none⟩ c).setCell ⟨B, 3, none⟩ d).setCell ⟨B, 4, none⟩ e).setCell ⟨B, 5, none⟩ f) :=
  (((((h.setCell (p := ⟨B, 0, none⟩) hn a).setCell (p := ⟨B, 1, none⟩) hn b).setCell (p := ⟨B, 2, none⟩) hn c).setCell (p := ⟨B, 3, none⟩) hn d).setCell (p := ⟨B, 4, none⟩) hn e).setCell (p := ⟨B, 5, none⟩) hn f
theorem Blk.row6 {W : World} {B : Nat} {t : TypeId} {a b c d e f : Value} (h : Blk W B t #[a, b, c, d, e, f]) :
    (W.cell? ⟨B, 0, none⟩ = some a ∧ W.cell? ⟨B, 1, none⟩ = some b ∧ W.cell? ⟨B, 2, none⟩ = some c ∧ W.cell? ⟨B, 3, none⟩ = some d ∧ W.cell? ⟨B, 4, none⟩ = some e ∧ W.cell? ⟨B, 5, none⟩ = some f) ∧
    (W.frozen? ⟨B, 0, none⟩ = false ∧ W.frozen? ⟨B, 1, none⟩ = false ∧ W.frozen? ⟨B, 2, none⟩ = false ∧ W.frozen? ⟨B, 3, none⟩ = false ∧ W.frozen? ⟨B, 4, none⟩ = false ∧ W.frozen? ⟨B, 5, none⟩ = false) :=
  ⟨⟨h.cell 0, h.cell 1, h.cell 2, h.cell 3, h.cell 4, h.cell 5⟩, h.frozen 0, h.frozen 1, h.frozen 2, h.frozen 3, h.frozen 4, h.frozen 5⟩

/-- A box that may be is small. -/
theorem sizes_bd {d0 d1 d2 : Int} {b : Bx} (hm : mayD d0 d1 d2) (hb : mayB d0 d1 d2 b) : (1 ≤ b.a ∧ b.a ≤ 16) ∧ (1 ≤ b.b ∧ b.b ≤ 16) ∧ (1 ≤ b.c ∧ b.c ≤ 16) := by
  obtain ⟨h0, h1, h2⟩ := hm
  unfold okD at h0 h1 h2
  obtain ⟨⟨g0, _⟩, ⟨g1, _⟩, ⟨g2, _⟩⟩ := hb
  omega

set_option maxHeartbeats 1000000 in
theorem bmany_calls {b : Bx} (w : World) (ha : 1 ≤ b.a ∧ b.a ≤ 16) (hb : 1 ≤ b.b ∧ b.b ≤ 16) (hc : 1 ≤ b.c ∧ b.c ≤ 16) :
    Calls Try.prog 45 #[B6 b] w fun e W' => e = .returned (I (manyB b)) ∧ Below w.heap.size w W' := by
  have p1 : 0 ≤ b.a * b.b ∧ b.a * b.b ≤ 16 * 16 := mul_bd (by omega) ha.2 (by omega) hb.2
  have p2 : 0 ≤ b.a * b.b * b.c ∧ b.a * b.b * b.c ≤ 16 * 16 * 16 := mul_bd p1.1 p1.2 (by omega) hc.2
  unfold manyB
  obtain ⟨a0, a1⟩ := ha
  obtain ⟨b0, b1⟩ := hb
  obtain ⟨c0, c1⟩ := hc
  obtain ⟨p10, p11⟩ := p1
  obtain ⟨p20, p21⟩ := p2
  go_enter Try.func45, Try.ntmps45
  go_wp2
  go_loop [3, 5] (fun n i => (i = .int .i64 0 ∧ n = I 1) ∨ (i = .int .i64 1 ∧ n = I b.a) ∨ (i = .int .i64 2 ∧ n = I (b.a * b.b)) ∨ (i = .int .i64 3 ∧ n = I (b.a * b.b * b.c))) (fun _ i => 3 - (RowKit.intOf i).toNat)
  case atStart => exact .inl ⟨rfl, rfl⟩
  case round =>
    rcases hrel with ⟨rfl, rfl⟩ | ⟨rfl, rfl⟩ | ⟨rfl, rfl⟩ | ⟨rfl, rfl⟩
    · go_wp2
      go_round
      case rel => exact .inr (.inl ⟨rfl, by simp⟩)
      case measure => simp [RowKit.intOf]
    · go_wp2
      go_round
      case rel => exact .inr (.inr (.inl ⟨rfl, rfl⟩))
      case measure => simp [RowKit.intOf]
    · go_wp2
      go_round
      case rel => exact .inr (.inr (.inr ⟨rfl, rfl⟩))
      case measure => simp [RowKit.intOf]
    · go_wp2
      go_ret
      exact ⟨rfl, (Below.refl _ w).alloc (Nat.le_refl _) _⟩

theorem errB_ok {d0 d1 d2 : Int} {b : Bx} (hm : mayD d0 d1 d2) (hb : mayB d0 d1 d2 b) : errB d0 d1 d2 b = 0 := by
  rw [errB, if_pos ((okDB_iff _ _ _).2 hm), (mayBB_iff _ _ _ _).2 hb]; rfl
theorem errB_no {d0 d1 d2 : Int} {b : Bx} (hm : mayD d0 d1 d2) (hb : ¬ mayB d0 d1 d2 b) : errB d0 d1 d2 b = 2 := by
  rw [errB, if_pos ((okDB_iff _ _ _).2 hm), mayBB_no hb]; rfl
theorem errB_bad {d0 d1 d2 : Int} {b : Bx} (hm : ¬ mayD d0 d1 d2) : errB d0 d1 d2 b = 8 := by
  rw [errB, if_neg (by rw [okDB_iff]; exact hm)]
theorem errB_cases (d0 d1 d2 : Int) (b : Bx) : (mayD d0 d1 d2 ∧ mayB d0 d1 d2 b ∧ errB d0 d1 d2 b = 0) ∨ ((errB d0 d1 d2 b = 2 ∨ errB d0 d1 d2 b = 8) ∧ ¬ (mayD d0 d1 d2 ∧ mayB d0 d1 d2 b)) := by
  by_cases hm : mayD d0 d1 d2
  · by_cases hb : mayB d0 d1 d2 b
    · exact .inl ⟨hm, hb, errB_ok hm hb⟩
    · exact .inr ⟨.inl (errB_no hm hb), fun h => hb h.2⟩
  · exact .inr ⟨.inr (errB_bad hm), fun h => hm h.1⟩

set_option maxHeartbeats 1000000 in
theorem bMany_err {d0 d1 d2 : Int} {b : Bx} (w : World) (he : (errB d0 d1 d2 b != 0) = true) :
    Calls Try.prog 22 #[A3 d0 d1 d2, B6 b] w fun e W' => e = .returned (.tuple #[I 0, I (errB d0 d1 d2 b)]) ∧ Below w.heap.size w W' := by
  go_enter Try.func22, Try.ntmps22
  go_wp2_with fail
  obtain ⟨W, hW, hs, hB0, b0, b1, b2⟩ := three_start w #[I d0, I d1, I d2] #[I b.x, I b.y, I b.z, I b.a, I b.b, I b.c] #[I b.x, I b.y, I b.z, I b.a, I b.b, I b.c] 26 32 32
  rw [hW]
  clear hW
  refine (chk1 _ _ b2).mono ?_
  rintro e w1 ⟨rfl, hB⟩
  go_wp2
  go_ret2
  exact ⟨rfl, then_below hB0 hB⟩

set_option maxHeartbeats 1000000 in
theorem bMany_ok {d0 d1 d2 : Int} {b : Bx} (w : World) (hm : mayD d0 d1 d2) (hb : mayB d0 d1 d2 b) :
    Calls Try.prog 22 #[A3 d0 d1 d2, B6 b] w fun e W' => e = .returned (.tuple #[I (manyB b), I 0]) ∧ Below w.heap.size w W' := by
  have H0 : Hid (errB d0 d1 d2 b = 0) := errB_ok hm hb
  obtain ⟨s0, s1, s2⟩ := sizes_bd hm hb
  go_enter Try.func22, Try.ntmps22
  go_wp2_with fail
  obtain ⟨W, hW, hs, hB0, b0, b1, b2⟩ := three_start w #[I d0, I d1, I d2] #[I b.x, I b.y, I b.z, I b.a, I b.b, I b.c] #[I b.x, I b.y, I b.z, I b.a, I b.b, I b.c] 26 32 32
  rw [hW]
  clear hW
  refine (chk1 _ _ b2).mono ?_
  rintro e w1 ⟨rfl, hT⟩
  rw [H0.out]
  obtain ⟨⟨k0, k1, k2⟩, ⟨k3, k4, k5⟩, hz1⟩ := b1.six hT
  go_wp2_with fail
  refine (bmany_calls _ s0 s1 s2).mono ?_
  rintro e w2 ⟨rfl, hB2⟩
  go_wp2
  go_ret2
  exact ⟨rfl, then_below hB0 (then_below hT hB2)⟩

end Go.Proofs.Ytjmfdpilmljppaa

/-
  pos.At: the midplane at coordinates, for every input; nothing that lay before is turned.
-/
namespace Go.Proofs.Ytjmfdpilmljppaa
open Go.RowKit Go.Shelf

attribute [local go_sem] Oper.semAt_some ext_const

/-- The four blocks that the call lays first. -/
theorem at_start (w : World) (u0 u1 u2 u3 : Array Value) (t0 t1 t2 t3 : TypeId) :
    ∃ W : World, (((w.alloc (.cells u0 t0)).alloc (.cells u1 t1)).alloc (.cells u2 t2)).alloc (.cells u3 t3) = W ∧ W.heap.size = w.heap.size + 4 ∧ Below w.heap.size w W ∧
      Blk W w.heap.size t0 u0 ∧ Blk W (w.heap.size + 1) t1 u1 ∧ Blk W (w.heap.size + 1 + 1) t2 u2 ∧ Blk W (w.heap.size + 1 + 1 + 1) t3 u3 := by
  refine ⟨_, rfl, by simp, ((((Below.refl _ w).alloc (Nat.le_refl _) _).alloc (by simp) _).alloc (by simp; omega) _).alloc (by simp; omega) _, ?_, ?_, ?_, ?_⟩
  · exact (((Blk.new w t0 u0).alloc _).alloc _).alloc _
  · have := ((Blk.new (w.alloc (.cells u0 t0)) t1 u1).alloc (.cells u2 t2)).alloc (.cells u3 t3); simpa using this
  · have := (Blk.new ((w.alloc (.cells u0 t0)).alloc (.cells u1 t1)) t2 u2).alloc (.cells u3 t3); simpa using this
  · have := Blk.new (((w.alloc (.cells u0 t0)).alloc (.cells u1 t1)).alloc (.cells u2 t2)) t3 u3; simpa using this

set_option maxHeartbeats 400000 in
theorem at_bad {d0 d1 d2 : Int} (p0 p1 p2 : Int) (w : World) (hm : ¬ mayD d0 d1 d2) :
    Calls Try.prog 48 #[A3 d0 d1 d2, A3 p0 p1 p2] w fun e W' => e = .returned (.tuple #[I 0, I 8]) ∧ Below w.heap.size w W' := by
  go_enter Try.func48, Try.ntmps48
  go_wp2_with fail
  obtain ⟨W, hW, hs, hB0, b0, b1, b2, b3⟩ := at_start w #[I d0, I d1, I d2] #[I p0, I p1, I p2] #[I 0] #[I 0] 26 25 3 22
  rw [hW]
  clear hW
  refine (check_no _ hm).mono ?_
  rintro e w1 ⟨rfl, hB⟩
  have g2 := b2.later hB
  have g3 := b3.later hB
  have c2 := g2.cell 0
  have c3 := g3.cell 0
  have f2 := g2.frozen 0
  have f3 := g3.frozen 0
  simp at c2 c3
  go_wp2
  have k2 := ((g2.set 0 (.int .i64 0)).other (B' := w.heap.size + 1 + 1 + 1) 0 (.int .i64 8) (by omega)).cell 0
  have k3 := ((g3.other (B' := w.heap.size + 1 + 1) 0 (.int .i64 0) (by omega)).set 0 (.int .i64 8)).cell 0
  simp at k2 k3
  exact bodyPost_ret (v := .tuple #[I 0, I 8]) (by simp [results, Try.f48, go_sem, k2, k3]) rfl ⟨rfl, ((hB0.trans (hB.mono (by omega))).setCell (p := ⟨w.heap.size + 1 + 1, 0, none⟩) (by simp; omega) _).setCell (p := ⟨w.heap.size + 1 + 1 + 1, 0, none⟩) (by simp; omega) _⟩

set_option maxRecDepth 100000 in
set_option maxHeartbeats 2000000 in
theorem at_loop {d0 d1 d2 : Int} (p0 p1 p2 : Int) (w : World) (hm : mayD d0 d1 d2) :
    Calls Try.prog 48 #[A3 d0 d1 d2, A3 p0 p1 p2] w fun e W' => ((inD d0 d1 d2 p0 p1 p2 ∧ e = .returned (.tuple #[I (numD d0 d1 p0 p1 p2), I 0])) ∨ (¬ inD d0 d1 d2 p0 p1 p2 ∧ e = .returned (.tuple #[I 0, I 2]))) ∧ Below w.heap.size w W' := by
  refine (callsIn_wide (n := 3)).1 ?_
  refine callsIn_of_wp_marks Try.func48 rfl trivial ?_ rfl
  simp only [Try.ntmps48, List.size_toArray, List.length_cons, List.length_nil, Nat.reduceAdd, Nat.reduceSub, Array.replicate_succ, Array.replicate_zero, List.push_toArray, List.append_toArray, List.nil_append, List.cons_append]
  gi_wp2_with fail
  obtain ⟨W, hW, hs, hB0, b0, b1, b2, b3⟩ := at_start w #[I d0, I d1, I d2] #[I p0, I p1, I p2] #[I 0] #[I 0] 26 25 3 22
  rw [hW]
  clear hW
  refine ⟨trivial, ?_⟩
  refine (callsIn_wide.2 (check_yes _ hm)).mono ?_
  rintro e w1 ⟨rfl, hB⟩
  have hz : w.heap.size + 4 ≤ w1.heap.size := by have := hB.size; omega
  have g0 := b0.later hB
  have g1 := b1.later hB
  have g2 := b2.later hB
  have g3 := b3.later hB
  have hB1 : Below w.heap.size w w1 := hB0.trans (hB.mono (by omega))
  have hz0 : w.heap.size < w1.heap.size := by omega
  have hz1 : w.heap.size + 1 < w1.heap.size := by omega
  have hz2 : w.heap.size + 1 + 1 < w1.heap.size := by omega
  have hz3 : w.heap.size + 1 + 1 + 1 < w1.heap.size := by omega
  clear hB b0 b1 b2 b3 hB0 hs
  have c0 := g0.cell 0
  have c1 := g0.cell 1
  have c2 := g0.cell 2
  simp at c0 c1 c2
  gi_wp2_with (refine ⟨trivial, ?_⟩; gi_at_call 75; refine (callsIn_wide.2 (axes_calls _ _ _ _)).mono ?_; rintro e w' ⟨rfl, rfl⟩)
  obtain ⟨W, hW⟩ : ∃ W, (w1.alloc (.cells #[I 0] 3)).alloc (.cells #[I d0, I d1, I d2] 26) = W := ⟨_, rfl⟩
  have q0 : Blk W w.heap.size 26 #[I d0, I d1, I d2] := hW ▸ (g0.alloc _).alloc _
  have q1 : Blk W (w.heap.size + 1) 25 #[I p0, I p1, I p2] := hW ▸ (g1.alloc _).alloc _
  have q2 : Blk W (w.heap.size + 1 + 1) 3 #[I 0] := hW ▸ (g2.alloc _).alloc _
  have q3 : Blk W (w.heap.size + 1 + 1 + 1) 22 #[I 0] := hW ▸ (g3.alloc _).alloc _
  have q4 : Blk W w1.heap.size 3 #[I 0] := hW ▸ (Blk.new w1 3 #[I 0]).alloc _
  have q5 : Blk W (w1.heap.size + 1) 26 #[I d0, I d1, I d2] := by
    have := Blk.new (w1.alloc (.cells #[I 0] 3)) 26 #[I d0, I d1, I d2]
    rw [World.size_alloc] at this; exact hW ▸ this
  have hBW : Below w.heap.size w W := hW ▸ (hB1.alloc hB1.size _).alloc (by simp; omega) _
  have hsW : W.heap.size = w1.heap.size + 2 := by rw [← hW]; simp
  rw [hW]
  clear hW g0 g1 g2 g3 c0 c1 c2 hB1
  refine wpIn_axes (w1.heap.size + 1) d0 d1 d2 rfl q5 rfl
    (fun pre W => ((∀ k ∈ pre, inK d0 d1 d2 p0 p1 p2 k) ∧ Blk W w.heap.size 26 #[I d0, I d1, I d2] ∧ Blk W (w.heap.size + 1) 25 #[I p0, I p1, I p2] ∧ Blk W (w.heap.size + 1 + 1) 3 #[I 0] ∧ Blk W (w.heap.size + 1 + 1 + 1) 22 #[I 0] ∧ Blk W w1.heap.size 3 #[I (numL d0 d1 p0 p1 p2 pre)]) ∧ Below w.heap.size w W)
    (fun c pre W => (c = .ret ∧ (∃ k ∈ pre, ¬ inK d0 d1 d2 p0 p1 p2 k) ∧ Blk W (w.heap.size + 1 + 1) 3 #[I 0] ∧ Blk W (w.heap.size + 1 + 1 + 1) 22 #[I 2]) ∧ Below w.heap.size w W)
    (OwnFrom.and (Own.from (own_and (own_pure _) (own_and (blk_own _ _ _) (own_and (blk_own _ _ _) (own_and (blk_own _ _ _) (own_and (blk_own _ _ _) (blk_own _ _ _)))))) _) (ownFrom_below (Nat.le_refl _) (by omega)))
    (fun c => OwnFrom.and (Own.from (own_and (own_pure _) (own_and (own_pure _) (own_and (blk_own _ _ _) (blk_own _ _ _)))) _) (ownFrom_below (Nat.le_refl _) (by omega)))
    ⟨⟨by simp, q0, q1, q2, q3, q4⟩, hBW⟩
    (fun x => { tmps := #[A3 d0 d1 d2, A3 p0 p1 p2, .pointer (some ⟨w.heap.size, 0, none⟩), .pointer (some ⟨w.heap.size + 1, 0, none⟩), .pointer (some ⟨w.heap.size + 1 + 1, 0, none⟩), .pointer (some ⟨w.heap.size + 1 + 1 + 1, 0, none⟩), I 0, .pointer (some ⟨w1.heap.size, 0, none⟩), .int .i64 (axI x), .int .i64 (strd d0 d1 x), A3 d0 d1 d2, I 0, I 0, .bool false, undef, A3 d0 d1 d2, .func (.func 89) #[] #[.pointer (some ⟨w1.heap.size + 1, 0, none⟩)], .int .i64 (axI x), .int .i64 (strd d0 d1 x), undef, undef, undef, undef, undef, undef, undef, undef, undef, undef, undef, undef, undef, undef, undef, undef], defers := [] }) ?assign ?body ?done ?stop
  case assign =>
    intro l x W K hK
    gi_wp2
    exact hK
  case body =>
    clear q0 q1 q2 q3 q4 q5 hBW hsW
    rintro l pre x W ⟨⟨hp, q0, q1, q2, q3, q4⟩, hB⟩ hlen
    have hmx : Try.prog.follows .mixedOrders = true := by kernel_rfl
    have e0 := Ext.cell q0 0
    have e1 := Ext.cell q0 1
    have e2 := Ext.cell q0 2
    have e3 := Ext.cell q1 0
    have e4 := Ext.cell q1 1
    have e5 := Ext.cell q1 2
    simp at e0 e1 e2 e3 e4 e5
    by_cases hx : inK d0 d1 d2 p0 p1 p2 x
    · have HW : Hid (wrap64 (numL d0 d1 p0 p1 p2 pre + wrap64 (dimAt p0 p1 p2 x * strd d0 d1 x)) = numL d0 d1 p0 p1 p2 (pre ++ [x])) := numL_snoc hm pre x hlen hp hx
      have hb : belowB (dimAt p0 p1 p2 x) (dimAt d0 d1 d2 x) = true := by unfold inK at hx; simp [belowB, hx.1, hx.2]
      generalize hst : strd d0 d1 x = st at *
      have Hst := hst
      clear hst
      rcases fin3 x with rfl | rfl | rfl
      all_goals
        simp only [axI, dimAt] at hb ⊢
        gi_wp2
        refine wpIn_region_look (loose_round _ l) hmx (by kernel_rfl) ?_
        repeat (go_big_quiet_step (exact calls_ext_same (below_calls _ _ _)))
        refine wpQuiet_nil ?_
        intro x
        gi_wp2
        have r1 := q1.later x.le
        have r4 := q4.later x.le
        have e3 := Ext.cell r1 0
        have e4 := Ext.cell r1 1
        have e5 := Ext.cell r1 2
        have e6 := Ext.cell r4 0
        simp at e3 e4 e5 e6
        refine wpIn_region_tail 7 (loose_round _ l) hmx (by kernel_rfl) ?_
        simp only [List.take_succ_cons, List.take_zero, List.drop_succ_cons, List.drop_zero]
        repeat (go_big_quiet_step (fail))
        refine wpQuiet_nil ?_
        intro y
        have g3 := Ext.frozen r4 0 y
        have e6 := e6 y
        gi_wp2
        refine ⟨((keeps_below x.le).trans (keeps_below y.le)).trans (KeepsOthers.setCell _ _ _), trivial, ⟨fun k hk => ?_, ((q0.later x.le).later y.le).other 0 _ (by omega), ((q1.later x.le).later y.le).other 0 _ (by omega), ((q2.later x.le).later y.le).other 0 _ (by omega), ((q3.later x.le).later y.le).other 0 _ (by omega), ?_⟩, (below_ext (below_ext hB x) y).setCell (p := ⟨w1.heap.size, 0, none⟩) (by simp; omega) _⟩
        · rcases List.mem_append.1 hk with h | h
          · exact hp k h
          · simp at h; subst h; exact hx
        · rw [← HW.out]
          exact (r4.later y.le).set 0 _
    · have hb : belowB (dimAt p0 p1 p2 x) (dimAt d0 d1 d2 x) = false := by unfold inK at hx; simp [belowB]; omega
      generalize hst : strd d0 d1 x = st at *
      clear hst
      rcases fin3 x with rfl | rfl | rfl
      all_goals
        simp only [axI, dimAt] at hb ⊢
        gi_wp2
        refine wpIn_region_look (loose_round _ l) hmx (by kernel_rfl) ?_
        repeat (go_big_quiet_step (exact calls_ext_same (below_calls _ _ _)))
        refine wpQuiet_nil ?_
        intro x
        have r2 := q2.later x.le
        have r3 := q3.later x.le
        have c2 := r2.cell 0
        have c3 := r3.cell 0
        have f2 := r2.frozen 0
        have f3 := r3.frozen 0
        simp at c2 c3
        gi_wp2
        exact ⟨((keeps_below x.le).trans (KeepsOthers.setCell _ _ _)).trans (KeepsOthers.setCell _ _ _), ⟨rfl, ⟨_, List.mem_append.2 (.inr (List.mem_singleton.2 rfl)), hx⟩, (r2.set 0 _).other 0 _ (by omega), (r3.other 0 _ (by omega)).set 0 _⟩, ((below_ext hB x).setCell (p := ⟨w.heap.size + 1 + 1, 0, none⟩) (by simp; omega) _).setCell (p := ⟨w.heap.size + 1 + 1 + 1, 0, none⟩) (by simp; omega) _⟩
  case done =>
    clear q0 q1 q2 q3 q4 q5 hBW
    rintro D W hD ⟨⟨hp, q0, q1, q2, q3, q4⟩, hB⟩ hK
    have c2 := q2.cell 0
    have c3 := q3.cell 0
    have c4 := q4.cell 0
    have f2 := q2.frozen 0
    have f3 := q3.frozen 0
    simp at c2 c3 c4
    gi_wp2
    have hK' := ((KeepsOthers.setCell W ⟨w.heap.size + 1 + 1, 0, none⟩ (.int .i64 (numL d0 d1 p0 p1 p2 [0, 1, 2]))).trans (KeepsOthers.setCell _ ⟨w.heap.size + 1 + 1 + 1, 0, none⟩ (.int .i64 0))).same D _ hK rfl
    refine ⟨by simp, .inl ⟨_, _, rfl, run_takeDeferred hK', ?_⟩⟩
    have k2 := (((q2.set 0 (.int .i64 (numL d0 d1 p0 p1 p2 [0, 1, 2]))).other (B' := w.heap.size + 1 + 1 + 1) 0 (.int .i64 0) (by omega)).putObj (.deferred none) hK' rfl).cell 0
    have k3 := (((q3.other (B' := w.heap.size + 1 + 1) 0 (.int .i64 (numL d0 d1 p0 p1 p2 [0, 1, 2])) (by omega)).set 0 (.int .i64 0)).putObj (.deferred none) hK' rfl).cell 0
    simp at k2 k3
    refine ⟨.tuple #[I (numL d0 d1 p0 p1 p2 [0, 1, 2]), I 0], ?_, .inl ⟨inD_of hp, by rw [numL_all hm]⟩, below_put _ ((hB.setCell (p := ⟨w.heap.size + 1 + 1, 0, none⟩) (by simp; omega) _).setCell (p := ⟨w.heap.size + 1 + 1 + 1, 0, none⟩) (by simp; omega) _) (by omega) hK'⟩
    simp [results, Try.f48, go_sem, k2, k3]
  case stop =>
    clear q0 q1 q2 q3 q4 q5 hBW
    rintro D c pre W hD hpre ⟨⟨rfl, ⟨k, hk, hno⟩, q2, q3⟩, hB⟩ hK
    gi_wp2
    refine ⟨by simp, .inl ⟨_, _, rfl, run_takeDeferred hK, ?_⟩⟩
    have k2 := (q2.putObj (.deferred none) hK rfl).cell 0
    have k3 := (q3.putObj (.deferred none) hK rfl).cell 0
    simp at k2 k3
    refine ⟨.tuple #[I 0, I 2], ?_, .inr ⟨fun h => hno (inK_of h k), rfl⟩, below_put _ hB (by omega) hK⟩
    simp [results, Try.f48, go_sem, k2, k3]

theorem at_yes {d0 d1 d2 p0 p1 p2 : Int} (w : World) (hm : mayD d0 d1 d2) (hp : inD d0 d1 d2 p0 p1 p2) :
    Calls Try.prog 48 #[A3 d0 d1 d2, A3 p0 p1 p2] w fun e W' => e = .returned (.tuple #[I (numD d0 d1 p0 p1 p2), I 0]) ∧ Below w.heap.size w W' := by
  refine (at_loop p0 p1 p2 w hm).mono ?_
  rintro e W' ⟨⟨_, rfl⟩ | ⟨hn, _⟩, hB⟩
  · exact ⟨rfl, hB⟩
  · exact absurd hp hn

theorem at_no {d0 d1 d2 p0 p1 p2 : Int} (w : World) (hm : mayD d0 d1 d2) (hp : ¬ inD d0 d1 d2 p0 p1 p2) :
    Calls Try.prog 48 #[A3 d0 d1 d2, A3 p0 p1 p2] w fun e W' => e = .returned (.tuple #[I 0, I 2]) ∧ Below w.heap.size w W' := by
  refine (at_loop p0 p1 p2 w hm).mono ?_
  rintro e W' ⟨⟨hy, _⟩ | ⟨_, rfl⟩, hB⟩
  · exact absurd hy hp
  · exact ⟨rfl, hB⟩

end Go.Proofs.Ytjmfdpilmljppaa

/-
  pos.Of: the coordinates of a midplane, for every input; nothing that lay before is turned.
-/
namespace Go.Proofs.Ytjmfdpilmljppaa
open Go.RowKit Go.Shelf

attribute [local go_sem] Oper.semAt_some ext_const

set_option maxHeartbeats 400000 in
theorem of_err {d0 d1 d2 : Int} (m e : Int) (w : World) (he : (e != 0) = true)
    (hc : ∀ w, Calls Try.prog 85 #[A3 d0 d1 d2, I m] w fun x W' => x = .returned (I e) ∧ Below w.heap.size w W') :
    Calls Try.prog 59 #[A3 d0 d1 d2, I m] w fun x W' => x = .returned (.tuple #[A3 0 0 0, I e]) ∧ Below w.heap.size w W' := by
  have HC := Hid.out hc
  have HH : Hid (∀ w, Calls Try.prog 85 #[A3 d0 d1 d2, I m] w fun x W' => x = .returned (I e) ∧ Below w.heap.size w W') := hc
  clear hc HC
  go_enter Try.func59, Try.ntmps59
  go_wp2_with fail
  obtain ⟨W, hW, hs, hB0, b0, b1, b2, b3⟩ := at_start w #[I d0, I d1, I d2] #[I m] #[I 0, I 0, I 0] #[I 0, I 0, I 0] 26 3 25 25
  rw [hW]
  clear hW
  refine (HH.out _).mono ?_
  rintro x w1 ⟨rfl, hB⟩
  have g2 := b2.later hB
  have g3 := b3.later hB
  have c0 := g3.cell 0
  have c1 := g3.cell 1
  have c2 := g3.cell 2
  have k0 := g2.cell 0
  have k1 := g2.cell 1
  have k2 := g2.cell 2
  have f0 := g2.frozen 0
  have f1 := g2.frozen 1
  have f2 := g2.frozen 2
  simp at c0 c1 c2 k0 k1 k2
  go_wp2
  have r2 := ((g2.set 0 (.int .i64 0)).set 1 (.int .i64 0)).set 2 (.int .i64 0)
  have r0 := r2.cell 0
  have r1 := r2.cell 1
  have r2 := r2.cell 2
  simp at r0 r1 r2
  refine bodyPost_ret (v := .tuple #[A3 0 0 0, I e]) (by simp [results, Try.f59, go_sem, r0, r1, r2]) rfl ⟨rfl, ?_⟩
  exact (((hB0.trans (hB.mono (by omega))).setCell (p := ⟨w.heap.size + 1 + 1, 0, none⟩) (by simp; omega) _).setCell (p := ⟨w.heap.size + 1 + 1, 1, none⟩) (by simp; omega) _).setCell (p := ⟨w.heap.size + 1 + 1, 2, none⟩) (by simp; omega) _

theorem of_bad {d0 d1 d2 : Int} (m : Int) (w : World) (hm : ¬ mayD d0 d1 d2) :
    Calls Try.prog 59 #[A3 d0 d1 d2, I m] w fun x W' => x = .returned (.tuple #[A3 0 0 0, I 8]) ∧ Below w.heap.size w W' :=
  of_err m 8 w (by decide) (fun w => node_bad m w hm)
theorem of_no {d0 d1 d2 m : Int} (w : World) (hm : mayD d0 d1 d2) (hn : ¬ (0 ≤ m ∧ m < d0 * d1 * d2)) :
    Calls Try.prog 59 #[A3 d0 d1 d2, I m] w fun x W' => x = .returned (.tuple #[A3 0 0 0, I 2]) ∧ Below w.heap.size w W' :=
  of_err m 2 w (by decide) (fun w => node_no m w hm (by simp [belowB]; omega))

set_option maxRecDepth 100000 in
set_option maxHeartbeats 2000000 in
theorem of_yes {d0 d1 d2 m : Int} (w : World) (hm : mayD d0 d1 d2) (hn : 0 ≤ m ∧ m < d0 * d1 * d2) :
    Calls Try.prog 59 #[A3 d0 d1 d2, I m] w fun x W' => x = .returned (.tuple #[A3 (cx d0 m) (cy d0 d1 m) (cz d0 d1 m), I 0]) ∧ Below w.heap.size w W' := by
  refine (callsIn_wide (n := 3)).1 ?_
  refine callsIn_of_wp_marks Try.func59 rfl trivial ?_ rfl
  simp only [Try.ntmps59, List.size_toArray, List.length_cons, List.length_nil, Nat.reduceAdd, Nat.reduceSub, Array.replicate_succ, Array.replicate_zero, List.push_toArray, List.append_toArray, List.nil_append, List.cons_append]
  have HN : Hid (0 ≤ m ∧ m < d0 * d1 * d2) := hn
  have hmb : 0 ≤ m ∧ m ≤ 4096 := by have := N_bd hm; omega
  clear hn
  gi_wp2_with fail
  obtain ⟨W, hW, hs, hB0, b0, b1, b2, b3⟩ := at_start w #[I d0, I d1, I d2] #[I m] #[I 0, I 0, I 0] #[I 0, I 0, I 0] 26 3 25 25
  rw [hW]
  clear hW
  refine ⟨trivial, ?_⟩
  refine (callsIn_wide.2 (node_yes m _ hm (by have := HN.out; simp [belowB, this.1, this.2]))).mono ?_
  rintro e w1 ⟨rfl, hB⟩
  have hz : w.heap.size + 4 ≤ w1.heap.size := by have := hB.size; omega
  have g0 := b0.later hB
  have g1 := b1.later hB
  have g2 := b2.later hB
  have g3 := b3.later hB
  have hB1 : Below w.heap.size w w1 := hB0.trans (hB.mono (by omega))
  clear hB b0 b1 b2 b3 hB0 hs
  have c0 := g0.cell 0
  have c1 := g0.cell 1
  have c2 := g0.cell 2
  simp at c0 c1 c2
  gi_wp2_with (refine ⟨trivial, ?_⟩; gi_at_call 75; refine (callsIn_wide.2 (axes_calls _ _ _ _)).mono ?_; rintro e w' ⟨rfl, rfl⟩)
  obtain ⟨W, hW⟩ : ∃ W, w1.alloc (.cells #[I d0, I d1, I d2] 26) = W := ⟨_, rfl⟩
  have q0 : Blk W w.heap.size 26 #[I d0, I d1, I d2] := hW ▸ g0.alloc _
  have q1 : Blk W (w.heap.size + 1) 3 #[I m] := hW ▸ g1.alloc _
  have q2 : Blk W (w.heap.size + 1 + 1) 25 #[I 0, I 0, I 0] := hW ▸ g2.alloc _
  have q3 : Blk W (w.heap.size + 1 + 1 + 1) 25 #[I 0, I 0, I 0] := hW ▸ g3.alloc _
  have q5 : Blk W w1.heap.size 26 #[I d0, I d1, I d2] := hW ▸ Blk.new w1 26 #[I d0, I d1, I d2]
  have hBW : Below w.heap.size w W := hW ▸ hB1.alloc hB1.size _
  have hsW : W.heap.size = w1.heap.size + 1 := by rw [← hW]; simp
  rw [hW]
  clear hW g0 g1 g2 g3 c0 c1 c2 hB1
  refine wpIn_axes w1.heap.size d0 d1 d2 rfl q5 rfl
    (fun pre W => (Blk W w.heap.size 26 #[I d0, I d1, I d2] ∧ Blk W (w.heap.size + 1) 3 #[I m] ∧ Blk W (w.heap.size + 1 + 1) 25 #[I 0, I 0, I 0] ∧ Blk W (w.heap.size + 1 + 1 + 1) 25 #[I (crdL d0 d1 d2 m pre 0), I (crdL d0 d1 d2 m pre 1), I (crdL d0 d1 d2 m pre 2)]) ∧ Below w.heap.size w W)
    (fun _ _ _ => False)
    (OwnFrom.and (Own.from (own_and (blk_own _ _ _) (own_and (blk_own _ _ _) (own_and (blk_own _ _ _) (blk_own _ _ _)))) _) (ownFrom_below (Nat.le_refl _) (by omega)))
    (fun _ _ _ _ _ hs _ _ => hs)
    ⟨⟨q0, q1, q2, q3⟩, hBW⟩
    (fun x => { tmps := #[A3 d0 d1 d2, I m, .pointer (some ⟨w.heap.size, 0, none⟩), .pointer (some ⟨w.heap.size + 1, 0, none⟩), .pointer (some ⟨w.heap.size + 1 + 1, 0, none⟩), .int .i64 0, .pointer (some ⟨w.heap.size + 1 + 1 + 1, 0, none⟩), I 0, .int .i64 (axI x), .int .i64 (strd d0 d1 x), A3 d0 d1 d2, I m, I 0, I 0, .bool false, undef, undef, A3 d0 d1 d2, .func (.func 89) #[] #[.pointer (some ⟨w1.heap.size, 0, none⟩)], .int .i64 (axI x), .int .i64 (strd d0 d1 x), undef, undef, undef, undef, undef, undef, undef, undef, undef, undef], defers := [] }) ?assign ?body ?done ?stop
  case assign =>
    intro l x W K hK
    gi_wp2
    exact hK
  case body =>
    clear q0 q1 q2 q3 q5 hBW hsW
    rintro l pre x W ⟨⟨q0, q1, q2, q3⟩, hB⟩ hlen
    have hmx : Try.prog.follows .mixedOrders = true := by kernel_rfl
    have e0 := Ext.cell q0 0
    have e1 := Ext.cell q0 1
    have e2 := Ext.cell q0 2
    have e3 := Ext.cell q1 0
    simp at e0 e1 e2 e3
    have hdx := dimAt_ok hm x
    have hsx := (strd_ok hm).2.2.2 x
    have HC : Hid ((m / strd d0 d1 x).tmod (dimAt d0 d1 d2 x) = crd d0 d1 d2 m x) := by
      show _ = _
      rw [Int.tmod_eq_emod_of_nonneg (Int.ediv_nonneg hmb.1 (by omega))]; rfl
    unfold okD at hdx
    generalize strd d0 d1 x = st at *
    obtain ⟨hst0, hst1⟩ := hsx
    obtain ⟨hd0, hd1⟩ := hdx
    obtain ⟨hm0, hm1⟩ := hmb
    rcases fin3 x with rfl | rfl | rfl
    all_goals
      simp only [axI, dimAt] at hd0 hd1 HC ⊢
      gi_wp2
      refine wpIn_region_tail 9 (loose_round _ l) hmx (by kernel_rfl) ?_
      simp only [List.take_succ_cons, List.take_zero, List.drop_succ_cons, List.drop_zero]
      repeat (go_big_quiet_step (fail))
      refine wpQuiet_nil ?_
      intro x
      have r3 := q3.later x.le
      have c0 := r3.cell 0
      have c1 := r3.cell 1
      have c2 := r3.cell 2
      have f0 := r3.frozen 0
      have f1 := r3.frozen 1
      have f2 := r3.frozen 2
      simp at c0 c1 c2
      gi_wp2
      rw [HC.out]
      refine ⟨(keeps_below x.le).trans (KeepsOthers.setCell _ _ _), trivial, ⟨(q0.later x.le).other _ _ (by omega), (q1.later x.le).other _ _ (by omega), (q2.later x.le).other _ _ (by omega), ?_⟩, (below_ext hB x).setCell (p := ⟨w.heap.size + 1 + 1 + 1, _, none⟩) (by simp; omega) _⟩
      rw [crdL_same]
      rw [crdL_other _ _ _ _ _ (by decide), crdL_other _ _ _ _ _ (by decide)]
      first
        | exact r3.set 0 _
        | exact r3.set 1 _
        | exact r3.set 2 _
  case done =>
    clear q0 q1 q2 q3 q5 hBW
    rintro D W hD ⟨⟨q0, q1, q2, q3⟩, hB⟩ hK
    have c0 := q3.cell 0
    have c1 := q3.cell 1
    have c2 := q3.cell 2
    have k0 := q2.cell 0
    have k1 := q2.cell 1
    have k2 := q2.cell 2
    have f0 := q2.frozen 0
    have f1 := q2.frozen 1
    have f2 := q2.frozen 2
    simp at c0 c1 c2 k0 k1 k2
    have hcr := crd_all hm HN.out
    have E0 : crdL d0 d1 d2 m [0, 1, 2] 0 = cx d0 m := by rw [← hcr.1]; simp [crdL]
    have E1 : crdL d0 d1 d2 m [0, 1, 2] 1 = cy d0 d1 m := by rw [← hcr.2.1]; simp [crdL]
    have E2 : crdL d0 d1 d2 m [0, 1, 2] 2 = cz d0 d1 m := by rw [← hcr.2.2]; simp [crdL]
    rw [E0] at c0
    rw [E1] at c1
    rw [E2] at c2
    clear q3 E0 E1 E2 hcr
    gi_wp2
    have hK' := (((KeepsOthers.setCell W ⟨w.heap.size + 1 + 1, 0, none⟩ (.int .i64 (cx d0 m))).trans (KeepsOthers.setCell _ ⟨w.heap.size + 1 + 1, 1, none⟩ (.int .i64 (cy d0 d1 m)))).trans (KeepsOthers.setCell _ ⟨w.heap.size + 1 + 1, 2, none⟩ (.int .i64 (cz d0 d1 m)))).same D _ hK rfl
    refine ⟨by simp, .inl ⟨_, _, rfl, run_takeDeferred hK', ?_⟩⟩
    have fin := ((((q2.set 0 (.int .i64 (cx d0 m))).set 1 (.int .i64 (cy d0 d1 m))).set 2 (.int .i64 (cz d0 d1 m))).putObj (.deferred none) hK' rfl)
    have j0 := fin.cell 0
    have j1 := fin.cell 1
    have j2 := fin.cell 2
    simp at j0 j1 j2
    refine ⟨.tuple #[A3 (cx d0 m) (cy d0 d1 m) (cz d0 d1 m), I 0], ?_, rfl, below_put _ (((hB.setCell (p := ⟨w.heap.size + 1 + 1, 0, none⟩) (by simp; omega) _).setCell (p := ⟨w.heap.size + 1 + 1, 1, none⟩) (by simp; omega) _).setCell (p := ⟨w.heap.size + 1 + 1, 2, none⟩) (by simp; omega) _) (by omega) hK'⟩
    simp [results, Try.f59, go_sem, j0, j1, j2]
  case stop =>
    rintro D c pre W _ _ h _
    exact h.elim

end Go.Proofs.Ytjmfdpilmljppaa

/-
  box.Canon, box.Has, box.Meet, box.Within: what each call answers.
-/
namespace Go.Proofs.Ytjmfdpilmljppaa
open Go.RowKit Go.Shelf

attribute [local go_sem] Oper.semAt_some ext_const

abbrev C6 (b : Bx) : Array Value := #[I b.x, I b.y, I b.z, I b.a, I b.b, I b.c]

theorem four_start (w : World) (u0 u1 u2 u3 : Array Value) (t0 t1 t2 t3 : TypeId) :
    ∃ W : World, (((w.alloc (.cells u0 t0)).alloc (.cells u1 t1)).alloc (.cells u2 t2)).alloc (.cells u3 t3) = W ∧ W.heap.size = w.heap.size + 4 ∧ Below w.heap.size w W ∧ Blk W w.heap.size t0 u0 ∧ Blk W (w.heap.size + 1) t1 u1 ∧ Blk W (w.heap.size + 1 + 1) t2 u2 ∧ Blk W (w.heap.size + 1 + 1 + 1) t3 u3 := by
  obtain ⟨W, hW, hs, hB, b0, b1, b2⟩ := three_start w u0 u1 u2 t0 t1 t2
  refine ⟨_, rfl, by simp, ?_, ?_, ?_, ?_, ?_⟩
  · rw [hW]; exact then_alloc hB _
  · rw [hW]; exact b0.alloc _
  · rw [hW]; exact b1.alloc _
  · rw [hW]; exact b2.alloc _
  · have := Blk.new (((w.alloc (.cells u0 t0)).alloc (.cells u1 t1)).alloc (.cells u2 t2)) t3 u3; simpa using this

set_option maxHeartbeats 1000000 in
theorem bcanon_err {d0 d1 d2 : Int} {b : Bx} (w : World) (he : (errB d0 d1 d2 b != 0) = true) :
    Calls Try.prog 23 #[A3 d0 d1 d2, B6 b] w fun e W' => e = .returned (.tuple #[B6 ⟨0, 0, 0, 0, 0, 0⟩, I (errB d0 d1 d2 b)]) ∧ Below w.heap.size w W' := by
  go_enter Try.func23, Try.ntmps23
  go_wp2_with fail
  obtain ⟨W, hW, hs, hB0, b0, b1, b2, b3⟩ := four_start w #[I d0, I d1, I d2] (C6 b) #[I 0, I 0, I 0, I 0, I 0, I 0] (C6 b) 26 32 32 32
  rw [hW]
  clear hW
  refine (chk1 _ _ b3).mono ?_
  rintro e w1 ⟨rfl, hT⟩
  have q2 := b2.later hT
  obtain ⟨⟨c0, c1, c2, c3, c4, c5⟩, f0, f1, f2, f3, f4, f5⟩ := q2.row6
  go_wp2
  obtain ⟨⟨j0, j1, j2, j3, j4, j5⟩, _⟩ := (q2.set6 (I 0) (I 0) (I 0) (I 0) (I 0) (I 0)).row6
  have hBX := below_set6 (then_below hB0 hT) (show w.heap.size ≤ w.heap.size + 1 + 1 by omega) (I 0) (I 0) (I 0) (I 0) (I 0) (I 0)
  exact bodyPost_ret (v := .tuple #[B6 ⟨0, 0, 0, 0, 0, 0⟩, I (errB d0 d1 d2 b)]) (by simp [results, Try.f23, go_sem, j0, j1, j2, j3, j4, j5]) rfl ⟨rfl, hBX⟩

set_option maxRecDepth 100000 in
set_option maxHeartbeats 4000000 in
theorem bcanon_ok {d0 d1 d2 : Int} {b : Bx} (w : World) (hm : mayD d0 d1 d2) (hb : mayB d0 d1 d2 b) :
    Calls Try.prog 23 #[A3 d0 d1 d2, B6 b] w fun e W' => e = .returned (.tuple #[B6 (canonB d0 d1 d2 b), I 0]) ∧ Below w.heap.size w W' := by
  have H0 : Hid (errB d0 d1 d2 b = 0) := errB_ok hm hb
  have hmx : Try.prog.follows .mixedOrders = true := by kernel_rfl
  obtain ⟨X, hX⟩ : ∃ X, X = (canonB d0 d1 d2 b).x := ⟨_, rfl⟩
  obtain ⟨Y, hY⟩ : ∃ Y, Y = (canonB d0 d1 d2 b).y := ⟨_, rfl⟩
  obtain ⟨Z, hZ⟩ : ∃ Z, Z = (canonB d0 d1 d2 b).z := ⟨_, rfl⟩
  have hR : B6 (canonB d0 d1 d2 b) = .agg #[I X, I Y, I Z, I b.a, I b.b, I b.c] := by rw [hX, hY, hZ]; rfl
  rw [hR]
  have HX : Hid (X = if b.a = d0 then 0 else b.x) := hX
  have HY : Hid (Y = if b.b = d1 then 0 else b.y) := hY
  have HZ : Hid (Z = if b.c = d2 then 0 else b.z) := hZ
  clear hX hY hZ hR
  go_enter Try.func23, Try.ntmps23
  go_wp2_with fail
  obtain ⟨W, hW, hs, hB0, b0, b1, b2, b3⟩ := four_start w #[I d0, I d1, I d2] (C6 b) #[I 0, I 0, I 0, I 0, I 0, I 0] (C6 b) 26 32 32 32
  rw [hW]
  clear hW
  refine (chk1 _ _ b3).mono ?_
  rintro e w1 ⟨rfl, hT⟩
  rw [H0.out]
  have g0 := b0.later hT
  have g1 := b1.later hT
  have g2 := b2.later hT
  have hB := then_below hB0 hT
  clear b0 b1 b2 b3 hT hB0
  go_wp2_with fail
  go_loopw [16] (fun i wr => ((i = .int .i64 0 ∧ Blk wr (w.heap.size + 1) 32 (C6 b)) ∨ (i = .int .i64 1 ∧ Blk wr (w.heap.size + 1) 32 #[I X, I b.y, I b.z, I b.a, I b.b, I b.c]) ∨
    (i = .int .i64 2 ∧ Blk wr (w.heap.size + 1) 32 #[I X, I Y, I b.z, I b.a, I b.b, I b.c]) ∨ (i = .int .i64 3 ∧ Blk wr (w.heap.size + 1) 32 #[I X, I Y, I Z, I b.a, I b.b, I b.c])) ∧
    Blk wr w.heap.size 26 #[I d0, I d1, I d2] ∧ Blk wr (w.heap.size + 1 + 1) 32 #[I 0, I 0, I 0, I 0, I 0, I 0] ∧ Below w.heap.size w wr) (fun i _ => 3 - (RowKit.intOf i).toNat)
  case atStart => exact ⟨.inl ⟨rfl, g1⟩, g0, g2, hB⟩
  case round =>
    clear g0 g1 g2 hB
    obtain ⟨hi, g0, g2, hB⟩ := hrel
    have x0 := Ext.cell g0 0
    have x1 := Ext.cell g0 1
    have x2 := Ext.cell g0 2
    simp at x0 x1 x2
    rcases hi with ⟨rfl, g1⟩ | ⟨rfl, g1⟩ | ⟨rfl, g1⟩ | ⟨rfl, g1⟩
    · have y3 := Ext.cell g1 3
      simp at y3
      cases hq : b.a == d0
      · have E : X = b.x := by rw [HX.out, if_neg (by simpa using hq)]
        subst E
        go_wp2
        refine wp_region_look hmx (by kernel_rfl) ?_
        repeat (go_big_quiet_step (fail))
        refine wpQuiet_nil ?_
        intro v
        go_wp2
        go_roundw
        case rel => exact ⟨.inr (.inl ⟨rfl, g1.later v.le⟩), g0.later v.le, g2.later v.le, then_below hB v.le⟩
        case measure => simp [RowKit.intOf]
      · have E : X = 0 := by rw [HX.out, if_pos (by simpa using hq)]
        subst E
        go_wp2
        refine wp_region_look hmx (by kernel_rfl) ?_
        repeat (go_big_quiet_step (fail))
        refine wpQuiet_nil ?_
        intro v
        have q1 := g1.later v.le
        obtain ⟨⟨c0, c1, c2, c3, c4, c5⟩, f0, f1, f2, f3, f4, f5⟩ := q1.row6
        go_wp2
        go_roundw
        case rel => exact ⟨.inr (.inl ⟨rfl, q1.set 0 (I 0)⟩), (g0.later v.le).other _ _ (by omega), (g2.later v.le).other _ _ (by omega), (then_below hB v.le).setCell (p := ⟨w.heap.size + 1, 0, none⟩) (by simp) _⟩
        case measure => simp [RowKit.intOf]
    · have y3 := Ext.cell g1 4
      simp at y3
      cases hq : b.b == d1
      · have E : Y = b.y := by rw [HY.out, if_neg (by simpa using hq)]
        subst E
        go_wp2
        refine wp_region_look hmx (by kernel_rfl) ?_
        repeat (go_big_quiet_step (fail))
        refine wpQuiet_nil ?_
        intro v
        go_wp2
        go_roundw
        case rel => exact ⟨.inr (.inr (.inl ⟨rfl, g1.later v.le⟩)), g0.later v.le, g2.later v.le, then_below hB v.le⟩
        case measure => simp [RowKit.intOf]
      · have E : Y = 0 := by rw [HY.out, if_pos (by simpa using hq)]
        subst E
        go_wp2
        refine wp_region_look hmx (by kernel_rfl) ?_
        repeat (go_big_quiet_step (fail))
        refine wpQuiet_nil ?_
        intro v
        have q1 := g1.later v.le
        obtain ⟨⟨c0, c1, c2, c3, c4, c5⟩, f0, f1, f2, f3, f4, f5⟩ := q1.row6
        go_wp2
        go_roundw
        case rel => exact ⟨.inr (.inr (.inl ⟨rfl, q1.set 1 (I 0)⟩)), (g0.later v.le).other _ _ (by omega), (g2.later v.le).other _ _ (by omega), (then_below hB v.le).setCell (p := ⟨w.heap.size + 1, 1, none⟩) (by simp) _⟩
        case measure => simp [RowKit.intOf]
    · have y3 := Ext.cell g1 5
      simp at y3
      cases hq : b.c == d2
      · have E : Z = b.z := by rw [HZ.out, if_neg (by simpa using hq)]
        subst E
        go_wp2
        refine wp_region_look hmx (by kernel_rfl) ?_
        repeat (go_big_quiet_step (fail))
        refine wpQuiet_nil ?_
        intro v
        go_wp2
        go_roundw
        case rel => exact ⟨.inr (.inr (.inr ⟨rfl, g1.later v.le⟩)), g0.later v.le, g2.later v.le, then_below hB v.le⟩
        case measure => simp [RowKit.intOf]
      · have E : Z = 0 := by rw [HZ.out, if_pos (by simpa using hq)]
        subst E
        go_wp2
        refine wp_region_look hmx (by kernel_rfl) ?_
        repeat (go_big_quiet_step (fail))
        refine wpQuiet_nil ?_
        intro v
        have q1 := g1.later v.le
        obtain ⟨⟨c0, c1, c2, c3, c4, c5⟩, f0, f1, f2, f3, f4, f5⟩ := q1.row6
        go_wp2
        go_roundw
        case rel => exact ⟨.inr (.inr (.inr ⟨rfl, q1.set 2 (I 0)⟩)), (g0.later v.le).other _ _ (by omega), (g2.later v.le).other _ _ (by omega), (then_below hB v.le).setCell (p := ⟨w.heap.size + 1, 2, none⟩) (by simp) _⟩
        case measure => simp [RowKit.intOf]
    · obtain ⟨⟨c0, c1, c2, c3, c4, c5⟩, _⟩ := g1.row6
      obtain ⟨⟨k0, k1, k2, k3, k4, k5⟩, f0, f1, f2, f3, f4, f5⟩ := g2.row6
      clear x0 x1 x2
      go_wp2
      obtain ⟨⟨j0, j1, j2, j3, j4, j5⟩, _⟩ := (g2.set6 (I X) (I Y) (I Z) (I b.a) (I b.b) (I b.c)).row6
      have hBX := below_set6 hB (show w.heap.size ≤ w.heap.size + 1 + 1 by omega) (I X) (I Y) (I Z) (I b.a) (I b.b) (I b.c)
      exact bodyPost_ret (v := .tuple #[.agg #[I X, I Y, I Z, I b.a, I b.b, I b.c], I 0]) (by simp [results, Try.f23, go_sem, j0, j1, j2, j3, j4, j5]) rfl ⟨rfl, hBX⟩

theorem errB2_ok {d0 d1 d2 : Int} {a b : Bx} (hm : mayD d0 d1 d2) (ha : mayB d0 d1 d2 a) (hb : mayB d0 d1 d2 b) : errB2 d0 d1 d2 a b = 0 := by
  rw [errB2, if_pos ((okDB_iff _ _ _).2 hm), (mayBB_iff _ _ _ _).2 ha, (mayBB_iff _ _ _ _).2 hb]; rfl
theorem errB2_no {d0 d1 d2 : Int} {a b : Bx} (hm : mayD d0 d1 d2) (hb : ¬ (mayB d0 d1 d2 a ∧ mayB d0 d1 d2 b)) : errB2 d0 d1 d2 a b = 2 := by
  rw [errB2, if_pos ((okDB_iff _ _ _).2 hm), show (mayBB d0 d1 d2 a && mayBB d0 d1 d2 b) = false by rw [← Bool.not_eq_true, Bool.and_eq_true, mayBB_iff, mayBB_iff]; exact hb]; rfl
theorem errB2_bad {d0 d1 d2 : Int} {a b : Bx} (hm : ¬ mayD d0 d1 d2) : errB2 d0 d1 d2 a b = 8 := by
  rw [errB2, if_neg (by rw [okDB_iff]; exact hm)]

set_option maxHeartbeats 1000000 in
theorem bwithin_err {d0 d1 d2 : Int} {a b : Bx} (w : World) (he : (errB2 d0 d1 d2 a b != 0) = true) :
    Calls Try.prog 43 #[A3 d0 d1 d2, B6 a, B6 b] w fun e W' => e = .returned (.tuple #[.bool false, I (errB2 d0 d1 d2 a b)]) ∧ Below w.heap.size w W' := by
  go_enter Try.func43, Try.ntmps43
  go_wp2_with fail
  obtain ⟨W, hW, hs, hB0, b0, b1, b2, b3⟩ := four_start w #[I d0, I d1, I d2] (C6 a) (C6 b) #[I a.x, I a.y, I a.z, I a.a, I a.b, I a.c, I b.x, I b.y, I b.z, I b.a, I b.b, I b.c] 26 32 32 32
  rw [hW]
  clear hW
  refine (chk2 _ _ b3).mono ?_
  rintro e w1 ⟨rfl, hB⟩
  go_wp2
  go_ret2
  exact ⟨rfl, then_below hB0 hB⟩
set_option maxHeartbeats 1000000 in
theorem bwithin_ok {d0 d1 d2 : Int} {a b : Bx} (w : World) (hm : mayD d0 d1 d2) (ha : mayB d0 d1 d2 a) (hb : mayB d0 d1 d2 b) :
    Calls Try.prog 43 #[A3 d0 d1 d2, B6 a, B6 b] w fun e W' => e = .returned (.tuple #[.bool (inB d0 d1 d2 a b), I 0]) ∧ Below w.heap.size w W' := by
  have H0 : Hid (errB2 d0 d1 d2 a b = 0) := errB2_ok hm ha hb
  go_enter Try.func43, Try.ntmps43
  go_wp2_with fail
  obtain ⟨W, hW, hs, hB0, b0, b1, b2, b3⟩ := four_start w #[I d0, I d1, I d2] (C6 a) (C6 b) #[I a.x, I a.y, I a.z, I a.a, I a.b, I a.c, I b.x, I b.y, I b.z, I b.a, I b.b, I b.c] 26 32 32 32
  rw [hW]
  clear hW
  refine (chk2 _ _ b3).mono ?_
  rintro e w1 ⟨rfl, hT⟩
  rw [H0.out]
  go_wp2_with fail
  refine (along_wi _ ⟨rfl, _, _, _, rfl⟩ (ans_within (b0.later hT) (b1.later hT) (b2.later hT) hm ha hb)).mono ?_
  rintro e w2 ⟨rfl, hB2⟩
  go_wp2
  go_ret2
  exact ⟨rfl, then_below hB0 (then_below hT hB2)⟩

end Go.Proofs.Ytjmfdpilmljppaa

/-
  '==' between two rows of three whole numbers: as the numbers are.
-/
namespace Go.Proofs.Ytjmfdpilmljppaa
open Go.RowKit

theorem eqIn_arr3 {P : Program} {t e : TypeId} {i : TypeInfo} (hu : P.underlying t = some (.array 3 e)) (he : P.underlying e = some (.int .i64)) (hi : P.info? e = some i) (hc : P.cellsOf e = 1) (hp : P.plainKey e = true)
    (a b c a' b' c' : Int) (w : World) : (Op.equalIn 10000 t (.agg #[.int .i64 a, .int .i64 b, .int .i64 c]) (.agg #[.int .i64 a', .int .i64 b', .int .i64 c'])).run P w = .ok (a == a' && (b == b' && c == c')) w := by
  rw [run_equalIn_array w 9999 _ _ hu hi, hc]
  have r3 : List.range 3 = [0, 1, 2] := rfl
  have p0 : ∀ (x y z : Value) (w : World), (part e #[x, y, z] 0).run P w = .ok x w := fun x y z w => run_part_plain w hp rfl
  have p1 : ∀ (x y z : Value) (w : World), (part e #[x, y, z] 1).run P w = .ok y w := fun x y z w => run_part_plain w hp rfl
  have p2 : ∀ (x y z : Value) (w : World), (part e #[x, y, z] 2).run P w = .ok z w := fun x y z w => run_part_plain w hp rfl
  have hq : ∀ (x y : Int) (w : World), (Op.equalIn 9999 e (.int .i64 x) (.int .i64 y)).run P w = .ok (x == y) w := fun x y w => run_equalIn_int w 9998 e .i64 .i64 x y he
  rw [r3]
  by_cases h0 : a = a' <;> by_cases h1 : b = b' <;> by_cases h2 : c = c' <;> simp [Op.eqItems, p0, p1, p2, hq, h0, h1, h2]

set_option maxRecDepth 100000 in
theorem eq_arr (a b c a' b' c' : Int) (w : World) : (Op.equalIn 10000 25 (.agg #[.int .i64 a, .int .i64 b, .int .i64 c]) (.agg #[.int .i64 a', .int .i64 b', .int .i64 c'])).run Try.prog w = .ok (a == a' && (b == b' && c == c')) w := by
  obtain ⟨i, hi⟩ : ∃ i, Try.prog.info? 3 = some i := ⟨_, rfl⟩
  exact eqIn_arr3 Try.underlying25 Try.underlying3 hi (by kernel_rfl) (by kernel_rfl) a b c a' b' c' w

end Go.Proofs.Ytjmfdpilmljppaa

/-
  '==' between two boxes: as their numbers are.
-/
namespace Go.Proofs.Ytjmfdpilmljppaa
open Go.RowKit

theorem eqIn_arr3_at {P : Program} (d : Nat) {t e : TypeId} {i : TypeInfo} (hu : P.underlying t = some (.array 3 e)) (he : P.underlying e = some (.int .i64)) (hi : P.info? e = some i) (hc : P.cellsOf e = 1) (hp : P.plainKey e = true)
    (a b c a' b' c' : Int) (w : World) : (Op.equalIn (d + 2) t (.agg #[.int .i64 a, .int .i64 b, .int .i64 c]) (.agg #[.int .i64 a', .int .i64 b', .int .i64 c'])).run P w = .ok (a == a' && (b == b' && c == c')) w := by
  rw [run_equalIn_array w (d + 1) _ _ hu hi, hc]
  have r3 : List.range 3 = [0, 1, 2] := rfl
  have p0 : ∀ (x y z : Value) (w : World), (part e #[x, y, z] 0).run P w = .ok x w := fun x y z w => run_part_plain w hp rfl
  have p1 : ∀ (x y z : Value) (w : World), (part e #[x, y, z] 1).run P w = .ok y w := fun x y z w => run_part_plain w hp rfl
  have p2 : ∀ (x y z : Value) (w : World), (part e #[x, y, z] 2).run P w = .ok z w := fun x y z w => run_part_plain w hp rfl
  have hq : ∀ (x y : Int) (w : World), (Op.equalIn (d + 1) e (.int .i64 x) (.int .i64 y)).run P w = .ok (x == y) w := fun x y w => run_equalIn_int w d e .i64 .i64 x y he
  rw [r3]
  by_cases h0 : a = a' <;> by_cases h1 : b = b' <;> by_cases h2 : c = c' <;> simp [Op.eqItems, p0, p1, p2, hq, h0, h1, h2]

/-- Two rows of three numbers are the same. -/
def same3 (a b c a' b' c' : Int) : Bool := a == a' && (b == b' && c == c')
theorem same3_self (a b c : Int) : same3 a b c a b c = true := by simp [same3]
def sameBx (a b : Bx) : Bool := same3 a.x a.y a.z b.x b.y b.z && same3 a.a a.b a.c b.a b.b b.c
theorem sameBx_iff (a b : Bx) : sameBx a b = true ↔ a = b := by
  cases a; cases b; simp [sameBx, same3, and_assoc]
theorem sameBx_self (a : Bx) : sameBx a a = true := (sameBx_iff a a).2 rfl

set_option maxRecDepth 100000 in
theorem eq_arr9 (a b c a' b' c' : Int) (w : World) : (Op.equalIn 9999 25 (.agg #[.int .i64 a, .int .i64 b, .int .i64 c]) (.agg #[.int .i64 a', .int .i64 b', .int .i64 c'])).run Try.prog w = .ok (same3 a b c a' b' c') w := by
  obtain ⟨i, hi⟩ : ∃ i, Try.prog.info? 3 = some i := ⟨_, rfl⟩
  exact eqIn_arr3_at 9997 Try.underlying25 Try.underlying3 hi (by kernel_rfl) (by kernel_rfl) a b c a' b' c' w

end Go.Proofs.Ytjmfdpilmljppaa

/-
  box.many, box.Many, box.Canon: what each call answers.
-/
import Derived.Test.YthakcjpipcmogaaBoxCheck
namespace Go.Proofs.Ythakcjpipcmogaa
open Go.RowKit Go.Shelf

attribute [local go_sem] Oper.semAt_some ext_const

theorem Blk.set6 {W : World} {B : Nat} {t : TypeId} {x0 x1 x2 x3 x4 x5 : Value} (h : Blk W B t #[x0, x1, x2, x3, x4, x5]) (a b c d e f : Value) :
    Blk ((((((W.setCell ⟨B, 0, none⟩ a).setCell ⟨B, 1, none⟩ b).setCell ⟨B, 2, none⟩ c).setCell ⟨B, 3, none⟩ d).setCell ⟨B, 4, none⟩ e).setCell ⟨B, 5, none⟩ f) B t #[a, b, c, d, e, f] :=
  (((((h.set 0 a).set 1 b).set 2 c).set 3 d).set 4 e).set 5 f
theorem below_set6 {n : Nat} {w W : World} {B : Nat} (h : Below n w W) (hn : n ≤ B) (a b c d e f : Value) :
    Below n w ((((((W.setCell ⟨B, 0, none⟩ a).setCell ⟨B, 1, none⟩ b).setCell ⟨B, 2, none⟩ c).setCell ⟨B, 3, none⟩ d).setCell ⟨B, 4, none⟩ e).setCell ⟨B, 5, none⟩ f) :=
  (((((h.setCell (p := ⟨B, 0, none⟩) hn a).setCell (p := ⟨B, 1, none⟩) hn b).setCell (p := ⟨B, 2, none⟩) hn c).setCell (p := ⟨B, 3, none⟩) hn d).setCell (p := ⟨B, 4, none⟩) hn e).setCell (p := ⟨B, 5, none⟩) hn f
theorem Blk.row6 {W : World} {B : Nat} {t : TypeId} {a b c d e f : Value} (h : Blk W B t #[a, b, c, d, e, f]) :
    (W.cell? ⟨B, 0, none⟩ = some a ∧ W.cell? ⟨B, 1, none⟩ = some b ∧ W.cell? ⟨B, 2, none⟩ = some c ∧ W.cell? ⟨B, 3, none⟩ = some d ∧ W.cell? ⟨B, 4, none⟩ = some e ∧ W.cell? ⟨B, 5, none⟩ = some f) ∧
    (W.frozen? ⟨B, 0, none⟩ = false ∧ W.frozen? ⟨B, 1, none⟩ = false ∧ W.frozen? ⟨B, 2, none⟩ = false ∧ W.frozen? ⟨B, 3, none⟩ = false ∧ W.frozen? ⟨B, 4, none⟩ = false ∧ W.frozen? ⟨B, 5, none⟩ = false) :=
  ⟨⟨h.cell 0, h.cell 1, h.cell 2, h.cell 3, h.cell 4, h.cell 5⟩, h.frozen 0, h.frozen 1, h.frozen 2, h.frozen 3, h.frozen 4, h.frozen 5⟩

/-- A box that may be is small. -/
theorem sizes_bd {d0 d1 d2 : Int} {b : Bx} (hm : mayD d0 d1 d2) (hb : mayB d0 d1 d2 b) : (1 ≤ b.a ∧ b.a ≤ 16) ∧ (1 ≤ b.b ∧ b.b ≤ 16) ∧ (1 ≤ b.c ∧ b.c ≤ 16) := by
  obtain ⟨h0, h1, h2⟩ := hm
  unfold okD at h0 h1 h2
  obtain ⟨⟨g0, _⟩, ⟨g1, _⟩, ⟨g2, _⟩⟩ := hb
  omega

set_option maxHeartbeats 1000000 in
theorem bmany_calls {b : Bx} (w : World) (ha : 1 ≤ b.a ∧ b.a ≤ 16) (hb : 1 ≤ b.b ∧ b.b ≤ 16) (hc : 1 ≤ b.c ∧ b.c ≤ 16) :
    Calls Try.prog 35 #[B6 b] w fun e W' => e = .returned (I (manyB b)) ∧ Below w.heap.size w W' := by
  have p1 : 0 ≤ b.a * b.b ∧ b.a * b.b ≤ 16 * 16 := mul_bd (by omega) ha.2 (by omega) hb.2
  have p2 : 0 ≤ b.a * b.b * b.c ∧ b.a * b.b * b.c ≤ 16 * 16 * 16 := mul_bd p1.1 p1.2 (by omega) hc.2
  unfold manyB
  obtain ⟨a0, a1⟩ := ha
  obtain ⟨b0, b1⟩ := hb
  obtain ⟨c0, c1⟩ := hc
  obtain ⟨p10, p11⟩ := p1
  obtain ⟨p20, p21⟩ := p2
  go_enter Try.func35, Try.ntmps35
  go_wp2
  go_loop [3, 5] (fun n i => (i = .int .i64 0 ∧ n = I 1) ∨ (i = .int .i64 1 ∧ n = I b.a) ∨ (i = .int .i64 2 ∧ n = I (b.a * b.b)) ∨ (i = .int .i64 3 ∧ n = I (b.a * b.b * b.c))) (fun _ i => 3 - (intOf i).toNat)
  case atStart => exact .inl ⟨rfl, rfl⟩
  case round =>
    rcases hrel with ⟨rfl, rfl⟩ | ⟨rfl, rfl⟩ | ⟨rfl, rfl⟩ | ⟨rfl, rfl⟩
    · go_wp2
      go_round
      case rel => exact .inr (.inl ⟨rfl, by simp⟩)
      case measure => simp [intOf]
    · go_wp2
      go_round
      case rel => exact .inr (.inr (.inl ⟨rfl, rfl⟩))
      case measure => simp [intOf]
    · go_wp2
      go_round
      case rel => exact .inr (.inr (.inr ⟨rfl, rfl⟩))
      case measure => simp [intOf]
    · go_wp2
      go_ret
      exact ⟨rfl, (Below.refl _ w).alloc (Nat.le_refl _) _⟩

theorem errB_ok {d0 d1 d2 : Int} {b : Bx} (hm : mayD d0 d1 d2) (hb : mayB d0 d1 d2 b) : errB d0 d1 d2 b = 0 := by
  rw [errB, if_pos ((okDB_iff _ _ _).2 hm), (mayBB_iff _ _ _ _).2 hb]; rfl
theorem errB_no {d0 d1 d2 : Int} {b : Bx} (hm : mayD d0 d1 d2) (hb : ¬ mayB d0 d1 d2 b) : errB d0 d1 d2 b = 2 := by
  rw [errB, if_pos ((okDB_iff _ _ _).2 hm), mayBB_no hb]; rfl
theorem errB_bad {d0 d1 d2 : Int} {b : Bx} (hm : ¬ mayD d0 d1 d2) : errB d0 d1 d2 b = 8 := by
  rw [errB, if_neg (by rw [okDB_iff]; exact hm)]
theorem errB_cases (d0 d1 d2 : Int) (b : Bx) : (mayD d0 d1 d2 ∧ mayB d0 d1 d2 b ∧ errB d0 d1 d2 b = 0) ∨ ((errB d0 d1 d2 b = 2 ∨ errB d0 d1 d2 b = 8) ∧ ¬ (mayD d0 d1 d2 ∧ mayB d0 d1 d2 b)) := by
  by_cases hm : mayD d0 d1 d2
  · by_cases hb : mayB d0 d1 d2 b
    · exact .inl ⟨hm, hb, errB_ok hm hb⟩
    · exact .inr ⟨.inl (errB_no hm hb), fun h => hb h.2⟩
  · exact .inr ⟨.inr (errB_bad hm), fun h => hm h.1⟩

set_option maxHeartbeats 1000000 in
theorem bMany_err {d0 d1 d2 : Int} {b : Bx} (w : World) (he : (errB d0 d1 d2 b != 0) = true) :
    Calls Try.prog 17 #[A3 d0 d1 d2, B6 b] w fun e W' => e = .returned (.tuple #[I 0, I (errB d0 d1 d2 b)]) ∧ Below w.heap.size w W' := by
  go_enter Try.func17, Try.ntmps17
  go_wp2_with fail
  obtain ⟨W, hW, hs, hB0, b0, b1, b2⟩ := three_start w #[I d0, I d1, I d2] #[I b.x, I b.y, I b.z, I b.a, I b.b, I b.c] #[I b.x, I b.y, I b.z, I b.a, I b.b, I b.c] 28 24 24
  rw [hW]
  clear hW
  refine (chk1 _ _ b2).mono ?_
  rintro e w1 ⟨rfl, hB⟩
  go_wp2
  go_ret2
  exact ⟨rfl, then_below hB0 hB⟩

set_option maxHeartbeats 1000000 in
theorem bMany_ok {d0 d1 d2 : Int} {b : Bx} (w : World) (hm : mayD d0 d1 d2) (hb : mayB d0 d1 d2 b) :
    Calls Try.prog 17 #[A3 d0 d1 d2, B6 b] w fun e W' => e = .returned (.tuple #[I (manyB b), I 0]) ∧ Below w.heap.size w W' := by
  have H0 : Hid (errB d0 d1 d2 b = 0) := errB_ok hm hb
  obtain ⟨s0, s1, s2⟩ := sizes_bd hm hb
  go_enter Try.func17, Try.ntmps17
  go_wp2_with fail
  obtain ⟨W, hW, hs, hB0, b0, b1, b2⟩ := three_start w #[I d0, I d1, I d2] #[I b.x, I b.y, I b.z, I b.a, I b.b, I b.c] #[I b.x, I b.y, I b.z, I b.a, I b.b, I b.c] 28 24 24
  rw [hW]
  clear hW
  refine (chk1 _ _ b2).mono ?_
  rintro e w1 ⟨rfl, hT⟩
  rw [H0.out]
  obtain ⟨⟨k0, k1, k2⟩, ⟨k3, k4, k5⟩, hz1⟩ := b1.six hT
  go_wp2_with fail
  refine (bmany_calls _ s0 s1 s2).mono ?_
  rintro e w2 ⟨rfl, hB2⟩
  go_wp2
  go_ret2
  exact ⟨rfl, then_below hB0 (then_below hT hB2)⟩

end Go.Proofs.Ythakcjpipcmogaa

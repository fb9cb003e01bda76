/-
  box.check, of one box and of two; box.Check: what each call answers.
-/
import Derived.Test.YtbedhpooeabehaaGreatDoorPart11
import Derived.Test.YtbedhpooeabehaaGreatDoorPart5
import Derived.Test.YtbedhpooeabehaaGreatDoorPart8
import Derived.Test.YtbedhpooeabehaaGreatDoorPart7
namespace Go.Proofs.YtbedhpooeabehaaGreatDoor
open Go.RowKit Go.Shelf

attribute [local go_sem] Oper.semAt_some ext_const

def codeOf (b : Bool) : Int := if b then 0 else 2

theorem chk_bad {d0 d1 d2 : Int} (v : Value) (w : World) (hm : ¬ mayD d0 d1 d2) :
    Calls Tryz.prog 65 #[A3 d0 d1 d2, v] w fun e W' => e = .returned (I 8) ∧ Below w.heap.size w W' := by
  go_enter Tryz.func65, Tryz.ntmps65
  go_wp2_with fail
  refine (check_no _ hm).mono ?_
  rintro e w1 ⟨rfl, hB⟩
  go_wp2
  go_ret
  exact ⟨rfl, then_below ((Below.refl _ w).alloc (Nat.le_refl _) _) hB⟩

/-- The calls of box.along in box.check. -/
theorem along_check {w : World} {D B : Nat} {d0 d1 d2 : Int} {b : Bx} (hd : Blk w D 23 #[I d0, I d1, I d2]) (hb : Blk w B 27 #[I b.x, I b.y, I b.z, I b.a, I b.b, I b.c]) :
    Calls Tryz.prog 77 #[.func (.func 78) #[] #[.pointer (some ⟨D, 0, none⟩), .pointer (some ⟨B, 0, none⟩)]] w fun e W' => e = .returned (.bool (mayBB d0 d1 d2 b)) ∧ Below w.heap.size w W' :=
  along_ck w ⟨rfl, _, _, rfl⟩ (ans_check hd hb)

set_option maxRecDepth 100000 in
set_option maxHeartbeats 2000000 in
theorem chk_one {d0 d1 d2 : Int} {b : Bx} (S : Nat) (w : World) (hm : mayD d0 d1 d2) (hS : Blk w S 27 #[I b.x, I b.y, I b.z, I b.a, I b.b, I b.c]) :
    Calls Tryz.prog 65 #[A3 d0 d1 d2, .slice (some ⟨S, 0, none⟩) 1 1] w fun e W' => e = .returned (I (codeOf (mayBB d0 d1 d2 b))) ∧ Below w.heap.size w W' := by
  go_enter Tryz.func65, Tryz.ntmps65
  go_wp2_with fail
  have hB0 : Below w.heap.size w (w.alloc (.cells #[I d0, I d1, I d2] 23)) := (Below.refl _ w).alloc (Nat.le_refl _) _
  have b0 := Blk.new w 23 #[I d0, I d1, I d2]
  have b1 := hS.later hB0
  generalize w.alloc (.cells #[I d0, I d1, I d2] 23) = W at *
  refine (check_yes _ hm).mono ?_
  rintro e w1 ⟨rfl, hT⟩
  go_wp2_with fail
  go_loopw [16] (fun i wr => ((i = .int .i64 0) ∨ (i = .int .i64 1 ∧ mayBB d0 d1 d2 b = true)) ∧ Below W.heap.size W wr) (fun i _ => 1 - (RowKit.intOf i).toNat)
  case atStart => exact ⟨.inl rfl, hT⟩
  case round =>
    obtain ⟨hi, hT⟩ := hrel
    rcases hi with rfl | ⟨rfl, h0⟩
    · obtain ⟨⟨k0, k1, k2⟩, ⟨k3, k4, k5⟩, hz1⟩ := b1.six hT
      go_wp2_with fail
      have q0 := (b0.later hT).alloc (.cells #[I b.x, I b.y, I b.z, I b.a, I b.b, I b.c] 27)
      have q1 := Blk.new wr 27 #[I b.x, I b.y, I b.z, I b.a, I b.b, I b.c]
      have hT := then_alloc hT (.cells #[I b.x, I b.y, I b.z, I b.a, I b.b, I b.c] 27)
      refine (along_check q0 q1).mono ?_
      rintro e w2 ⟨rfl, hB⟩
      cases hp : mayBB d0 d1 d2 b
      · go_wp2
        go_ret
        exact ⟨by simp [codeOf, hp], then_below hB0 (then_below hT hB)⟩
      · go_wp2
        go_roundw
        case rel => exact ⟨.inr ⟨rfl, hp⟩, then_below hT hB⟩
        case measure => simp [RowKit.intOf]
    · go_wp2
      go_ret
      exact ⟨by simp [codeOf, h0], then_below hB0 hT⟩

set_option maxRecDepth 100000 in
set_option maxHeartbeats 2000000 in
theorem chk_two {d0 d1 d2 : Int} {a b : Bx} (S : Nat) (w : World) (hm : mayD d0 d1 d2) (hS : Blk w S 27 #[I a.x, I a.y, I a.z, I a.a, I a.b, I a.c, I b.x, I b.y, I b.z, I b.a, I b.b, I b.c]) :
    Calls Tryz.prog 65 #[A3 d0 d1 d2, .slice (some ⟨S, 0, none⟩) 2 2] w fun e W' => e = .returned (I (codeOf (mayBB d0 d1 d2 a && mayBB d0 d1 d2 b))) ∧ Below w.heap.size w W' := by
  go_enter Tryz.func65, Tryz.ntmps65
  go_wp2_with fail
  have hB0 : Below w.heap.size w (w.alloc (.cells #[I d0, I d1, I d2] 23)) := (Below.refl _ w).alloc (Nat.le_refl _) _
  have b0 := Blk.new w 23 #[I d0, I d1, I d2]
  have b1 := hS.later hB0
  generalize w.alloc (.cells #[I d0, I d1, I d2] 23) = W at *
  refine (check_yes _ hm).mono ?_
  rintro e w1 ⟨rfl, hT⟩
  go_wp2_with fail
  go_loopw [16] (fun i wr => ((i = .int .i64 0) ∨ (i = .int .i64 1 ∧ mayBB d0 d1 d2 a = true) ∨ (i = .int .i64 2 ∧ mayBB d0 d1 d2 a = true ∧ mayBB d0 d1 d2 b = true)) ∧ Below W.heap.size W wr) (fun i _ => 2 - (RowKit.intOf i).toNat)
  case atStart => exact ⟨.inl rfl, hT⟩
  case round =>
    obtain ⟨hi, hT⟩ := hrel
    have r1 := b1.later hT
    rcases hi with rfl | ⟨rfl, h0⟩ | ⟨rfl, h0, h1⟩
    · have k0 := r1.cell 0
      have k1 := r1.cell 1
      have k2 := r1.cell 2
      have k3 := r1.cell 3
      have k4 := r1.cell 4
      have k5 := r1.cell 5
      simp at k0 k1 k2 k3 k4 k5
      go_wp2_with fail
      have q0 := (b0.later hT).alloc (.cells #[I a.x, I a.y, I a.z, I a.a, I a.b, I a.c] 27)
      have q1 := Blk.new wr 27 #[I a.x, I a.y, I a.z, I a.a, I a.b, I a.c]
      have hT := then_alloc hT (.cells #[I a.x, I a.y, I a.z, I a.a, I a.b, I a.c] 27)
      refine (along_check q0 q1).mono ?_
      rintro e w2 ⟨rfl, hB⟩
      cases hp : mayBB d0 d1 d2 a
      · go_wp2
        go_ret
        exact ⟨by simp [codeOf, hp], then_below hB0 (then_below hT hB)⟩
      · go_wp2
        go_roundw
        case rel => exact ⟨.inr (.inl ⟨rfl, hp⟩), then_below hT hB⟩
        case measure => simp [RowKit.intOf]
    · have k0 := r1.cell 6
      have k1 := r1.cell 7
      have k2 := r1.cell 8
      have k3 := r1.cell 9
      have k4 := r1.cell 10
      have k5 := r1.cell 11
      simp at k0 k1 k2 k3 k4 k5
      go_wp2_with fail
      have q0 := (b0.later hT).alloc (.cells #[I b.x, I b.y, I b.z, I b.a, I b.b, I b.c] 27)
      have q1 := Blk.new wr 27 #[I b.x, I b.y, I b.z, I b.a, I b.b, I b.c]
      have hT := then_alloc hT (.cells #[I b.x, I b.y, I b.z, I b.a, I b.b, I b.c] 27)
      refine (along_check q0 q1).mono ?_
      rintro e w2 ⟨rfl, hB⟩
      cases hp : mayBB d0 d1 d2 b
      · go_wp2
        go_ret
        exact ⟨by simp [codeOf, hp], then_below hB0 (then_below hT hB)⟩
      · go_wp2
        go_roundw
        case rel => exact ⟨.inr (.inr ⟨rfl, h0, hp⟩), then_below hT hB⟩
        case measure => simp [RowKit.intOf]
    · go_wp2
      go_ret
      exact ⟨by simp [codeOf, h0, h1], then_below hB0 hT⟩

/-- The error of a box. -/
def errB (d0 d1 d2 : Int) (b : Bx) : Int := if okDB d0 d1 d2 then codeOf (mayBB d0 d1 d2 b) else 8
def errB2 (d0 d1 d2 : Int) (a b : Bx) : Int := if okDB d0 d1 d2 then codeOf (mayBB d0 d1 d2 a && mayBB d0 d1 d2 b) else 8

theorem chk1 {d0 d1 d2 : Int} {b : Bx} (S : Nat) (w : World) (hS : Blk w S 27 #[I b.x, I b.y, I b.z, I b.a, I b.b, I b.c]) :
    Calls Tryz.prog 65 #[A3 d0 d1 d2, .slice (some ⟨S, 0, none⟩) 1 1] w fun e W' => e = .returned (I (errB d0 d1 d2 b)) ∧ Below w.heap.size w W' := by
  by_cases hm : mayD d0 d1 d2
  · rw [errB, if_pos ((okDB_iff _ _ _).2 hm)]; exact chk_one S w hm hS
  · rw [errB, if_neg (by rw [okDB_iff]; exact hm)]; exact chk_bad _ w hm
theorem chk2 {d0 d1 d2 : Int} {a b : Bx} (S : Nat) (w : World) (hS : Blk w S 27 #[I a.x, I a.y, I a.z, I a.a, I a.b, I a.c, I b.x, I b.y, I b.z, I b.a, I b.b, I b.c]) :
    Calls Tryz.prog 65 #[A3 d0 d1 d2, .slice (some ⟨S, 0, none⟩) 2 2] w fun e W' => e = .returned (I (errB2 d0 d1 d2 a b)) ∧ Below w.heap.size w W' := by
  by_cases hm : mayD d0 d1 d2
  · rw [errB2, if_pos ((okDB_iff _ _ _).2 hm)]; exact chk_two S w hm hS
  · rw [errB2, if_neg (by rw [okDB_iff]; exact hm)]; exact chk_bad _ w hm

end Go.Proofs.YtbedhpooeabehaaGreatDoor

/-
  box.side's coords: the coordinates of a side, rising, in new memory.
-/
namespace Go.Proofs.YtbedhpooeabehaaGreatDoor
open Go.RowKit Go.Shelf

attribute [local go_sem] Oper.semAt_some ext_const

def coordsTo (r b s : Int) (k : Nat) : List Int := ((List.range k).filter (fun j : Nat => hasS r b s j)).map (fun j : Nat => (j : Int))
def coordsS (r b s : Int) : List Int := coordsTo r b s r.toNat
theorem coordsTo_len (r b s : Int) (k : Nat) : (coordsTo r b s k).length ≤ k := by
  have := List.length_filter_le (fun j : Nat => hasS r b s j) (List.range k)
  simpa [coordsTo] using this
theorem coordsTo_yes {r b s : Int} {k : Nat} (h : hasS r b s k = true) : coordsTo r b s (k + 1) = coordsTo r b s k ++ [(k : Int)] := by
  simp [coordsTo, List.range_succ, List.filter_append, h]
theorem coordsTo_no {r b s : Int} {k : Nat} (h : hasS r b s k = false) : coordsTo r b s (k + 1) = coordsTo r b s k := by
  simp [coordsTo, List.range_succ, List.filter_append, h]

set_option maxRecDepth 100000 in
set_option maxHeartbeats 2000000 in
theorem coords_calls {r b s : Int} (w : World) (hr : r ≤ 16) (h : mayS r b s) :
    Calls Tryz.prog 67 #[A3 r b s] w fun e W' => ∃ v, e = .returned v ∧ Lst W' w.heap.size v (coordsS r b s) ∧ Below w.heap.size w W' := by
  have HH : Hid (∀ (w : World) (k : Int), 0 ≤ k → k < r → Calls Tryz.prog 80 #[A3 r b s, I k] w fun e W' => e = .returned (.bool (hasS r b s k)) ∧ Below w.heap.size w W') :=
    fun w k h0 h1 => has_calls s w hr h.2 ⟨h0, h1⟩
  obtain ⟨⟨s0, s1⟩, b0', b1'⟩ := h
  unfold coordsS
  go_enter Tryz.func67, Tryz.ntmps67
  have hB0 : Below w.heap.size w (w.alloc (.cells #[I r, I b, I s] 109)) := (Below.refl _ w).alloc (Nat.le_refl _) _
  have b0 := Blk.new w 109 #[I r, I b, I s]
  go_wp2_with (at_make; refine wpList_mk (base := (w.alloc (.cells #[I r, I b, I s] 109)).heap.size) rfl _ _ rfl s rfl rfl (by omega) (by omega) (Nat.le_refl _) ?_; intro v1 w1 hL1 hT1; obtain ⟨c0, c1, c2, hz⟩ := b0.three hT1)
  generalize w.alloc (.cells #[I r, I b, I s] 109) = W at *
  clear c0 c1 c2 hz
  go_loopw [3, 10] (fun v i wr => ∃ k : Nat, (k : Int) ≤ r ∧ i = .int .i64 k ∧ Lst wr W.heap.size v (coordsTo r b s k) ∧ Below W.heap.size W wr) (fun _ i _ => r.toNat - (RowKit.intOf i).toNat)
  case atStart => exact ⟨0, by omega, rfl, hL1, hT1⟩
  case round =>
    clear hL1 hT1
    obtain ⟨k, hk, rfl, hL, hT⟩ := hrel
    obtain ⟨c0, c1, c2, hz⟩ := b0.three hT
    by_cases hlt : (k : Int) < r
    · go_wp2_with fail
      refine (HH.out _ k (by omega) hlt).mono ?_
      rintro e w2 ⟨rfl, hB2⟩
      have hL := hL.later hB2
      have hT := then_below hT hB2
      clear c0 c1 c2 hz hB2
      cases hq : hasS r b s k
      · go_wp2
        go_roundw
        case rel => exact ⟨k + 1, by omega, by go_num, by rw [coordsTo_no hq]; exact hL, hT⟩
        case measure => simp [RowKit.intOf]; omega
      · go_wp2_with (at_builtin; refine wpList_app rfl _ _ rfl rfl rfl hL (by have := coordsTo_len r b s k; omega) hT.size ?_; intro v' w3 hL3 hT3)
        have hT := hT.trans hT3
        rw [← coordsTo_yes hq] at hL3
        clear hT3 hL
        go_roundw
        case rel => exact ⟨k + 1, by omega, by go_num, hL3, hT⟩
        case measure => simp [RowKit.intOf]; omega
    · have E : r.toNat = k := by omega
      have hL' : Lst wr w.heap.size _ (coordsTo r b s r.toNat) := (E ▸ hL).weak hB0.size
      clear hL E
      go_wp2
      go_ret
      exact ⟨_, rfl, hL', then_below hB0 hT⟩

end Go.Proofs.YtbedhpooeabehaaGreatDoor

/-
  box.many, box.Many, box.Canon: what each call answers.
-/
namespace Go.Proofs.YtbedhpooeabehaaGreatDoor
open Go.RowKit Go.Shelf

attribute [local go_sem] Oper.semAt_some ext_const

theorem Blk.set6 {W : World} {B : Nat} {t : TypeId} {x0 x1 x2 x3 x4 x5 : Value} (h : Blk W B t #[x0, x1, x2, x3, x4, x5]) (a b c d e f : Value) :
    Blk ((((((W.setCell ⟨B, 0, none⟩ a).setCell ⟨B, 1, none⟩ b).setCell ⟨B, 2, none⟩ c).setCell ⟨B, 3, none⟩ d).setCell ⟨B, 4, none⟩ e).setCell ⟨B, 5, none⟩ f) B t #[a, b, c, d, e, f] :=
  (((((h.set 0 a).set 1 b).set 2 c).set 3 d).set 4 e).set 5 f
theorem below_set6 {n : Nat} {w W : World} {B : Nat} (h : Below n w W) (hn : n ≤ B) (a b c d e f : Value) :
    Below n w ((((((W.setCell ⟨B, 0, none⟩ a).setCell ⟨B, 1, none⟩ b).setCell ⟨B, 2, none⟩ c).setCell ⟨B, 3, none⟩ d).setCell ⟨B, 4, none⟩ e).setCell ⟨B, 5, none⟩ f) :=
  (((((h.setCell (p := ⟨B, 0, none⟩) hn a).setCell (p := ⟨B, 1, none⟩) hn b).setCell (p := ⟨B, 2, none⟩) hn c).setCell (p := ⟨B, 3, none⟩) hn d).setCell (p := ⟨B, 4, none⟩) hn e).setCell (p := ⟨B, 5, none⟩) hn f
theorem Blk.row6 {W : World} {B : Nat} {t : TypeId} {a b c d e f : Value} (h : Blk W B t #[a, b, c, d, e, f]) :
    (W.cell? ⟨B, 0, none⟩ = some a ∧ W.cell? ⟨B, 1, none⟩ = some b ∧ W.cell? ⟨B, 2, none⟩ = some c ∧ W.cell? ⟨B, 3, none⟩ = some d ∧ W.cell? ⟨B, 4, none⟩ = some e ∧ W.cell? ⟨B, 5, none⟩ = some f) ∧
    (W.frozen? ⟨B, 0, none⟩ = false ∧ W.frozen? ⟨B, 1, none⟩ = false ∧ W.frozen? ⟨B, 2, none⟩ = false ∧ W.frozen? ⟨B, 3, none⟩ = false ∧ W.frozen? ⟨B, 4, none⟩ = false ∧ W.frozen? ⟨B, 5, none⟩ = false) :=
  ⟨⟨h.cell 0, h.cell 1, h.cell 2, h.cell 3, h.cell 4, h.cell 5⟩, h.frozen 0, h.frozen 1, h.frozen 2, h.frozen 3, h.frozen 4, h.frozen 5⟩

/-- A box that may be is small. -/
theorem sizes_bd {d0 d1 d2 : Int} {b : Bx} (hm : mayD d0 d1 d2) (hb : mayB d0 d1 d2 b) : (1 ≤ b.a ∧ b.a ≤ 16) ∧ (1 ≤ b.b ∧ b.b ≤ 16) ∧ (1 ≤ b.c ∧ b.c ≤ 16) := by
  obtain ⟨h0, h1, h2⟩ := hm
  unfold okD at h0 h1 h2
  obtain ⟨⟨g0, _⟩, ⟨g1, _⟩, ⟨g2, _⟩⟩ := hb
  omega

set_option maxHeartbeats 1000000 in
theorem bmany_calls {b : Bx} (w : World) (ha : 1 ≤ b.a ∧ b.a ≤ 16) (hb : 1 ≤ b.b ∧ b.b ≤ 16) (hc : 1 ≤ b.c ∧ b.c ≤ 16) :
    Calls Tryz.prog 68 #[B6 b] w fun e W' => e = .returned (I (manyB b)) ∧ Below w.heap.size w W' := by
  have p1 : 0 ≤ b.a * b.b ∧ b.a * b.b ≤ 16 * 16 := mul_bd (by omega) ha.2 (by omega) hb.2
  have p2 : 0 ≤ b.a * b.b * b.c ∧ b.a * b.b * b.c ≤ 16 * 16 * 16 := mul_bd p1.1 p1.2 (by omega) hc.2
  unfold manyB
  obtain ⟨a0, a1⟩ := ha
  obtain ⟨b0, b1⟩ := hb
  obtain ⟨c0, c1⟩ := hc
  obtain ⟨p10, p11⟩ := p1
  obtain ⟨p20, p21⟩ := p2
  go_enter Tryz.func68, Tryz.ntmps68
  go_wp2
  go_loop [3, 5] (fun n i => (i = .int .i64 0 ∧ n = I 1) ∨ (i = .int .i64 1 ∧ n = I b.a) ∨ (i = .int .i64 2 ∧ n = I (b.a * b.b)) ∨ (i = .int .i64 3 ∧ n = I (b.a * b.b * b.c))) (fun _ i => 3 - (RowKit.intOf i).toNat)
  case atStart => exact .inl ⟨rfl, rfl⟩
  case round =>
    rcases hrel with ⟨rfl, rfl⟩ | ⟨rfl, rfl⟩ | ⟨rfl, rfl⟩ | ⟨rfl, rfl⟩
    · go_wp2
      go_round
      case rel => exact .inr (.inl ⟨rfl, by simp⟩)
      case measure => simp [RowKit.intOf]
    · go_wp2
      go_round
      case rel => exact .inr (.inr (.inl ⟨rfl, rfl⟩))
      case measure => simp [RowKit.intOf]
    · go_wp2
      go_round
      case rel => exact .inr (.inr (.inr ⟨rfl, rfl⟩))
      case measure => simp [RowKit.intOf]
    · go_wp2
      go_ret
      exact ⟨rfl, (Below.refl _ w).alloc (Nat.le_refl _) _⟩

theorem errB_ok {d0 d1 d2 : Int} {b : Bx} (hm : mayD d0 d1 d2) (hb : mayB d0 d1 d2 b) : errB d0 d1 d2 b = 0 := by
  rw [errB, if_pos ((okDB_iff _ _ _).2 hm), (mayBB_iff _ _ _ _).2 hb]; rfl
theorem errB_no {d0 d1 d2 : Int} {b : Bx} (hm : mayD d0 d1 d2) (hb : ¬ mayB d0 d1 d2 b) : errB d0 d1 d2 b = 2 := by
  rw [errB, if_pos ((okDB_iff _ _ _).2 hm), mayBB_no hb]; rfl
theorem errB_bad {d0 d1 d2 : Int} {b : Bx} (hm : ¬ mayD d0 d1 d2) : errB d0 d1 d2 b = 8 := by
  rw [errB, if_neg (by rw [okDB_iff]; exact hm)]
theorem errB_cases (d0 d1 d2 : Int) (b : Bx) : (mayD d0 d1 d2 ∧ mayB d0 d1 d2 b ∧ errB d0 d1 d2 b = 0) ∨ ((errB d0 d1 d2 b = 2 ∨ errB d0 d1 d2 b = 8) ∧ ¬ (mayD d0 d1 d2 ∧ mayB d0 d1 d2 b)) := by
  by_cases hm : mayD d0 d1 d2
  · by_cases hb : mayB d0 d1 d2 b
    · exact .inl ⟨hm, hb, errB_ok hm hb⟩
    · exact .inr ⟨.inl (errB_no hm hb), fun h => hb h.2⟩
  · exact .inr ⟨.inr (errB_bad hm), fun h => hm h.1⟩

end Go.Proofs.YtbedhpooeabehaaGreatDoor

/-
  box.Canon, box.Has, box.Meet, box.Within: what each call answers.
-/
namespace Go.Proofs.YtbedhpooeabehaaGreatDoor
open Go.RowKit Go.Shelf

attribute [local go_sem] Oper.semAt_some ext_const

abbrev C6 (b : Bx) : Array Value := #[I b.x, I b.y, I b.z, I b.a, I b.b, I b.c]

theorem four_start (w : World) (u0 u1 u2 u3 : Array Value) (t0 t1 t2 t3 : TypeId) :
    ∃ W : World, (((w.alloc (.cells u0 t0)).alloc (.cells u1 t1)).alloc (.cells u2 t2)).alloc (.cells u3 t3) = W ∧ W.heap.size = w.heap.size + 4 ∧ Below w.heap.size w W ∧ Blk W w.heap.size t0 u0 ∧ Blk W (w.heap.size + 1) t1 u1 ∧ Blk W (w.heap.size + 1 + 1) t2 u2 ∧ Blk W (w.heap.size + 1 + 1 + 1) t3 u3 := by
  obtain ⟨W, hW, hs, hB, b0, b1, b2⟩ := three_start w u0 u1 u2 t0 t1 t2
  refine ⟨_, rfl, by simp, ?_, ?_, ?_, ?_, ?_⟩
  · rw [hW]; exact then_alloc hB _
  · rw [hW]; exact b0.alloc _
  · rw [hW]; exact b1.alloc _
  · rw [hW]; exact b2.alloc _
  · have := Blk.new (((w.alloc (.cells u0 t0)).alloc (.cells u1 t1)).alloc (.cells u2 t2)) t3 u3; simpa using this

set_option maxHeartbeats 1000000 in
theorem bcanon_err {d0 d1 d2 : Int} {b : Bx} (w : World) (he : (errB d0 d1 d2 b != 0) = true) :
    Calls Tryz.prog 47 #[A3 d0 d1 d2, B6 b] w fun e W' => e = .returned (.tuple #[B6 ⟨0, 0, 0, 0, 0, 0⟩, I (errB d0 d1 d2 b)]) ∧ Below w.heap.size w W' := by
  go_enter Tryz.func47, Tryz.ntmps47
  go_wp2_with fail
  obtain ⟨W, hW, hs, hB0, b0, b1, b2, b3⟩ := four_start w #[I d0, I d1, I d2] (C6 b) #[I 0, I 0, I 0, I 0, I 0, I 0] (C6 b) 23 27 27 27
  rw [hW]
  clear hW
  refine (chk1 _ _ b3).mono ?_
  rintro e w1 ⟨rfl, hT⟩
  have q2 := b2.later hT
  obtain ⟨⟨c0, c1, c2, c3, c4, c5⟩, f0, f1, f2, f3, f4, f5⟩ := q2.row6
  go_wp2
  obtain ⟨⟨j0, j1, j2, j3, j4, j5⟩, _⟩ := (q2.set6 (I 0) (I 0) (I 0) (I 0) (I 0) (I 0)).row6
  have hBX := below_set6 (then_below hB0 hT) (show w.heap.size ≤ w.heap.size + 1 + 1 by omega) (I 0) (I 0) (I 0) (I 0) (I 0) (I 0)
  exact bodyPost_ret (v := .tuple #[B6 ⟨0, 0, 0, 0, 0, 0⟩, I (errB d0 d1 d2 b)]) (by simp [results, Tryz.f47, go_sem, j0, j1, j2, j3, j4, j5]) rfl ⟨rfl, hBX⟩

set_option maxRecDepth 100000 in
set_option maxHeartbeats 4000000 in
theorem bcanon_ok {d0 d1 d2 : Int} {b : Bx} (w : World) (hm : mayD d0 d1 d2) (hb : mayB d0 d1 d2 b) :
    Calls Tryz.prog 47 #[A3 d0 d1 d2, B6 b] w fun e W' => e = .returned (.tuple #[B6 (canonB d0 d1 d2 b), I 0]) ∧ Below w.heap.size w W' := by
  have H0 : Hid (errB d0 d1 d2 b = 0) := errB_ok hm hb
  have hmx : Tryz.prog.follows .mixedOrders = true := by kernel_rfl
  obtain ⟨X, hX⟩ : ∃ X, X = (canonB d0 d1 d2 b).x := ⟨_, rfl⟩
  obtain ⟨Y, hY⟩ : ∃ Y, Y = (canonB d0 d1 d2 b).y := ⟨_, rfl⟩
  obtain ⟨Z, hZ⟩ : ∃ Z, Z = (canonB d0 d1 d2 b).z := ⟨_, rfl⟩
  have hR : B6 (canonB d0 d1 d2 b) = .agg #[I X, I Y, I Z, I b.a, I b.b, I b.c] := by rw [hX, hY, hZ]; rfl
  rw [hR]
  have HX : Hid (X = if b.a = d0 then 0 else b.x) := hX
  have HY : Hid (Y = if b.b = d1 then 0 else b.y) := hY
  have HZ : Hid (Z = if b.c = d2 then 0 else b.z) := hZ
  clear hX hY hZ hR
  go_enter Tryz.func47, Tryz.ntmps47
  go_wp2_with fail
  obtain ⟨W, hW, hs, hB0, b0, b1, b2, b3⟩ := four_start w #[I d0, I d1, I d2] (C6 b) #[I 0, I 0, I 0, I 0, I 0, I 0] (C6 b) 23 27 27 27
  rw [hW]
  clear hW
  refine (chk1 _ _ b3).mono ?_
  rintro e w1 ⟨rfl, hT⟩
  rw [H0.out]
  have g0 := b0.later hT
  have g1 := b1.later hT
  have g2 := b2.later hT
  have hB := then_below hB0 hT
  clear b0 b1 b2 b3 hT hB0
  go_wp2_with fail
  go_loopw [16] (fun i wr => ((i = .int .i64 0 ∧ Blk wr (w.heap.size + 1) 27 (C6 b)) ∨ (i = .int .i64 1 ∧ Blk wr (w.heap.size + 1) 27 #[I X, I b.y, I b.z, I b.a, I b.b, I b.c]) ∨
    (i = .int .i64 2 ∧ Blk wr (w.heap.size + 1) 27 #[I X, I Y, I b.z, I b.a, I b.b, I b.c]) ∨ (i = .int .i64 3 ∧ Blk wr (w.heap.size + 1) 27 #[I X, I Y, I Z, I b.a, I b.b, I b.c])) ∧
    Blk wr w.heap.size 23 #[I d0, I d1, I d2] ∧ Blk wr (w.heap.size + 1 + 1) 27 #[I 0, I 0, I 0, I 0, I 0, I 0] ∧ Below w.heap.size w wr) (fun i _ => 3 - (RowKit.intOf i).toNat)
  case atStart => exact ⟨.inl ⟨rfl, g1⟩, g0, g2, hB⟩
  case round =>
    clear g0 g1 g2 hB
    obtain ⟨hi, g0, g2, hB⟩ := hrel
    have x0 := Ext.cell g0 0
    have x1 := Ext.cell g0 1
    have x2 := Ext.cell g0 2
    simp at x0 x1 x2
    rcases hi with ⟨rfl, g1⟩ | ⟨rfl, g1⟩ | ⟨rfl, g1⟩ | ⟨rfl, g1⟩
    · have y3 := Ext.cell g1 3
      simp at y3
      cases hq : b.a == d0
      · have E : X = b.x := by rw [HX.out, if_neg (by simpa using hq)]
        subst E
        go_wp2
        refine wp_region_look hmx (by kernel_rfl) ?_
        repeat (go_big_quiet_step (fail))
        refine wpQuiet_nil ?_
        intro v
        go_wp2
        go_roundw
        case rel => exact ⟨.inr (.inl ⟨rfl, g1.later v.le⟩), g0.later v.le, g2.later v.le, then_below hB v.le⟩
        case measure => simp [RowKit.intOf]
      · have E : X = 0 := by rw [HX.out, if_pos (by simpa using hq)]
        subst E
        go_wp2
        refine wp_region_look hmx (by kernel_rfl) ?_
        repeat (go_big_quiet_step (fail))
        refine wpQuiet_nil ?_
        intro v
        have q1 := g1.later v.le
        obtain ⟨⟨c0, c1, c2, c3, c4, c5⟩, f0, f1, f2, f3, f4, f5⟩ := q1.row6
        go_wp2
        go_roundw
        case rel => exact ⟨.inr (.inl ⟨rfl, q1.set 0 (I 0)⟩), (g0.later v.le).other _ _ (by omega), (g2.later v.le).other _ _ (by omega), (then_below hB v.le).setCell (p := ⟨w.heap.size + 1, 0, none⟩) (by simp) _⟩
        case measure => simp [RowKit.intOf]
    · have y3 := Ext.cell g1 4
      simp at y3
      cases hq : b.b == d1
      · have E : Y = b.y := by rw [HY.out, if_neg (by simpa using hq)]
        subst E
        go_wp2
        refine wp_region_look hmx (by kernel_rfl) ?_
        repeat (go_big_quiet_step (fail))
        refine wpQuiet_nil ?_
        intro v
        go_wp2
        go_roundw
        case rel => exact ⟨.inr (.inr (.inl ⟨rfl, g1.later v.le⟩)), g0.later v.le, g2.later v.le, then_below hB v.le⟩
        case measure => simp [RowKit.intOf]
      · have E : Y = 0 := by rw [HY.out, if_pos (by simpa using hq)]
        subst E
        go_wp2
        refine wp_region_look hmx (by kernel_rfl) ?_
        repeat (go_big_quiet_step (fail))
        refine wpQuiet_nil ?_
        intro v
        have q1 := g1.later v.le
        obtain ⟨⟨c0, c1, c2, c3, c4, c5⟩, f0, f1, f2, f3, f4, f5⟩ := q1.row6
        go_wp2
        go_roundw
        case rel => exact ⟨.inr (.inr (.inl ⟨rfl, q1.set 1 (I 0)⟩)), (g0.later v.le).other _ _ (by omega), (g2.later v.le).other _ _ (by omega), (then_below hB v.le).setCell (p := ⟨w.heap.size + 1, 1, none⟩) (by simp) _⟩
        case measure => simp [RowKit.intOf]
    · have y3 := Ext.cell g1 5
      simp at y3
      cases hq : b.c == d2
      · have E : Z = b.z := by rw [HZ.out, if_neg (by simpa using hq)]
        subst E
        go_wp2
        refine wp_region_look hmx (by kernel_rfl) ?_
        repeat (go_big_quiet_step (fail))
        refine wpQuiet_nil ?_
        intro v
        go_wp2
        go_roundw
        case rel => exact ⟨.inr (.inr (.inr ⟨rfl, g1.later v.le⟩)), g0.later v.le, g2.later v.le, then_below hB v.le⟩
        case measure => simp [RowKit.intOf]
      · have E : Z = 0 := by rw [HZ.out, if_pos (by simpa using hq)]
        subst E
        go_wp2
        refine wp_region_look hmx (by kernel_rfl) ?_
        repeat (go_big_quiet_step (fail))
        refine wpQuiet_nil ?_
        intro v
        have q1 := g1.later v.le
        obtain ⟨⟨c0, c1, c2, c3, c4, c5⟩, f0, f1, f2, f3, f4, f5⟩ := q1.row6
        go_wp2
        go_roundw
        case rel => exact ⟨.inr (.inr (.inr ⟨rfl, q1.set 2 (I 0)⟩)), (g0.later v.le).other _ _ (by omega), (g2.later v.le).other _ _ (by omega), (then_below hB v.le).setCell (p := ⟨w.heap.size + 1, 2, none⟩) (by simp) _⟩
        case measure => simp [RowKit.intOf]
    · obtain ⟨⟨c0, c1, c2, c3, c4, c5⟩, _⟩ := g1.row6
      obtain ⟨⟨k0, k1, k2, k3, k4, k5⟩, f0, f1, f2, f3, f4, f5⟩ := g2.row6
      clear x0 x1 x2
      go_wp2
      obtain ⟨⟨j0, j1, j2, j3, j4, j5⟩, _⟩ := (g2.set6 (I X) (I Y) (I Z) (I b.a) (I b.b) (I b.c)).row6
      have hBX := below_set6 hB (show w.heap.size ≤ w.heap.size + 1 + 1 by omega) (I X) (I Y) (I Z) (I b.a) (I b.b) (I b.c)
      exact bodyPost_ret (v := .tuple #[.agg #[I X, I Y, I Z, I b.a, I b.b, I b.c], I 0]) (by simp [results, Tryz.f47, go_sem, j0, j1, j2, j3, j4, j5]) rfl ⟨rfl, hBX⟩

theorem errB2_ok {d0 d1 d2 : Int} {a b : Bx} (hm : mayD d0 d1 d2) (ha : mayB d0 d1 d2 a) (hb : mayB d0 d1 d2 b) : errB2 d0 d1 d2 a b = 0 := by
  rw [errB2, if_pos ((okDB_iff _ _ _).2 hm), (mayBB_iff _ _ _ _).2 ha, (mayBB_iff _ _ _ _).2 hb]; rfl
theorem errB2_no {d0 d1 d2 : Int} {a b : Bx} (hm : mayD d0 d1 d2) (hb : ¬ (mayB d0 d1 d2 a ∧ mayB d0 d1 d2 b)) : errB2 d0 d1 d2 a b = 2 := by
  rw [errB2, if_pos ((okDB_iff _ _ _).2 hm), show (mayBB d0 d1 d2 a && mayBB d0 d1 d2 b) = false by rw [← Bool.not_eq_true, Bool.and_eq_true, mayBB_iff, mayBB_iff]; exact hb]; rfl
theorem errB2_bad {d0 d1 d2 : Int} {a b : Bx} (hm : ¬ mayD d0 d1 d2) : errB2 d0 d1 d2 a b = 8 := by
  rw [errB2, if_neg (by rw [okDB_iff]; exact hm)]

end Go.Proofs.YtbedhpooeabehaaGreatDoor

/-
  What the document's own answer for layer 1 (tidehallref01) gives, for every input: dimensions, how many, the midplane at coordinates, the coordinates of one.
-/
namespace Go.Proofs.YtbedhpooeabehaaGreatDoor
open Go.RowKit Go.Shelf

attribute [local go_sem] Oper.semAt_some ext_const eq_arr

set_option maxRecDepth 100000 in
set_option maxHeartbeats 1000000 in
theorem rmay_calls (d0 d1 d2 : Int) (w : World) :
    Calls Tryz.prog 25 #[A3 d0 d1 d2] w fun e W' => ((mayD d0 d1 d2 ∧ e = .returned (.bool true)) ∨ (¬ mayD d0 d1 d2 ∧ e = .returned (.bool false))) ∧ Below w.heap.size w W' := by
  go_enter Tryz.func25, Tryz.ntmps25
  go_wp2
  go_loop [3] (fun i => i = .int .i64 0 ∨ (i = .int .i64 1 ∧ okD d0) ∨ (i = .int .i64 2 ∧ okD d0 ∧ okD d1) ∨ (i = .int .i64 3 ∧ mayD d0 d1 d2)) (fun i => 3 - (RowKit.intOf i).toNat)
  case atStart => exact .inl rfl
  case round =>
    have hB : Below w.heap.size w (w.alloc (.cells #[I d0, I d1, I d2] 23)) := (Below.refl _ w).alloc (Nat.le_refl _) _
    rcases hrel with rfl | ⟨rfl, h0⟩ | ⟨rfl, h0, h1⟩ | ⟨rfl, hm⟩
    · by_cases hl : d0 < 1
      · go_wp2
        go_ret
        exact ⟨.inr ⟨fun h => by have := h.1; unfold okD at this; omega, rfl⟩, hB⟩
      · by_cases hg : 16 < d0
        · go_wp2
          go_ret
          exact ⟨.inr ⟨fun h => by have := h.1; unfold okD at this; omega, rfl⟩, hB⟩
        · go_wp2
          go_round
          case rel => exact .inr (.inl ⟨rfl, by unfold okD; omega⟩)
          case measure => simp [RowKit.intOf]
    · by_cases hl : d1 < 1
      · go_wp2
        go_ret
        exact ⟨.inr ⟨fun h => by have := h.2.1; unfold okD at this; omega, rfl⟩, hB⟩
      · by_cases hg : 16 < d1
        · go_wp2
          go_ret
          exact ⟨.inr ⟨fun h => by have := h.2.1; unfold okD at this; omega, rfl⟩, hB⟩
        · go_wp2
          go_round
          case rel => exact .inr (.inr (.inl ⟨rfl, h0, by unfold okD; omega⟩))
          case measure => simp [RowKit.intOf]
    · by_cases hl : d2 < 1
      · go_wp2
        go_ret
        exact ⟨.inr ⟨fun h => by have := h.2.2; unfold okD at this; omega, rfl⟩, hB⟩
      · by_cases hg : 16 < d2
        · go_wp2
          go_ret
          exact ⟨.inr ⟨fun h => by have := h.2.2; unfold okD at this; omega, rfl⟩, hB⟩
        · go_wp2
          go_round
          case rel => exact .inr (.inr (.inr ⟨rfl, h0, h1, by unfold okD; omega⟩))
          case measure => simp [RowKit.intOf]
    · go_wp2
      go_ret
      exact ⟨rfl, hB⟩

theorem rmay_yes {d0 d1 d2 : Int} (w : World) (h : mayD d0 d1 d2) : Calls Tryz.prog 25 #[A3 d0 d1 d2] w fun e W' => e = .returned (.bool true) ∧ Below w.heap.size w W' := by
  refine (rmay_calls d0 d1 d2 w).mono ?_
  rintro e W' ⟨⟨_, rfl⟩ | ⟨hn, _⟩, hB⟩
  · exact ⟨rfl, hB⟩
  · exact absurd h hn
theorem rmay_no {d0 d1 d2 : Int} (w : World) (h : ¬ mayD d0 d1 d2) : Calls Tryz.prog 25 #[A3 d0 d1 d2] w fun e W' => e = .returned (.bool false) ∧ Below w.heap.size w W' := by
  refine (rmay_calls d0 d1 d2 w).mono ?_
  rintro e W' ⟨⟨hy, _⟩ | ⟨_, rfl⟩, hB⟩
  · exact absurd hy h
  · exact ⟨rfl, hB⟩

theorem rn_calls {d0 d1 d2 : Int} (w : World) (h : mayD d0 d1 d2) : Calls Tryz.prog 27 #[A3 d0 d1 d2] w fun e W' => e = .returned (I (d0 * d1 * d2)) ∧ Below w.heap.size w W' := by
  have hn := N_bd h
  have h' := h
  obtain ⟨h0, h1, h2⟩ := h'
  unfold okD at h0 h1 h2
  have hp : 0 ≤ d0 * d1 ∧ d0 * d1 ≤ 16 * 16 := mul_bd (by omega) h0.2 (by omega) h1.2
  go_enter Tryz.func27, Tryz.ntmps27
  go_wp2
  go_ret
  exact ⟨rfl, (Below.refl _ w).alloc (Nat.le_refl _) _⟩

theorem rnum_calls {d0 d1 d2 p0 p1 p2 : Int} (w : World) (h : mayD d0 d1 d2) (hp : inD d0 d1 d2 p0 p1 p2) : Calls Tryz.prog 46 #[A3 d0 d1 d2, A3 p0 p1 p2] w fun e W' => e = .returned (I (numD d0 d1 p0 p1 p2)) ∧ Below w.heap.size w W' := by
  have hn := (node_of_in h hp).1
  have hN := N_bd h
  have h' := h
  obtain ⟨h0, h1, h2⟩ := h'
  unfold okD at h0 h1 h2
  obtain ⟨q0, q1, q2⟩ := hp
  have a1 : 0 ≤ d1 * p2 ∧ d1 * p2 ≤ 16 * 16 := mul_bd (by omega) h1.2 (by omega) (by omega)
  have a2 : 0 ≤ d0 * (p1 + d1 * p2) ∧ d0 * (p1 + d1 * p2) ≤ 16 * 272 := mul_bd (by omega) h0.2 (by omega) (by omega)
  unfold numD at hn ⊢
  generalize d0 * d1 * d2 = N at hn hN
  go_enter Tryz.func46, Tryz.ntmps46
  go_wp2
  go_ret
  exact ⟨rfl, ((Below.refl _ w).alloc (Nat.le_refl _) _).alloc (by simp) _⟩

set_option maxRecDepth 100000 in
set_option maxHeartbeats 1000000 in
theorem rwhere_calls {d0 d1 d2 m : Int} (w : World) (h : mayD d0 d1 d2) (hm : 0 ≤ m ∧ m < d0 * d1 * d2) : Calls Tryz.prog 44 #[A3 d0 d1 d2, I m] w fun e W' => e = .returned (A3 (cx d0 m) (cy d0 d1 m) (cz d0 d1 m)) ∧ Below w.heap.size w W' := by
  have hN := N_bd h
  have hm0 : 0 ≤ m := hm.1
  have hm1 : m ≤ 4096 := by omega
  have h' := h
  obtain ⟨h0, h1, h2⟩ := h'
  unfold okD at h0 h1 h2
  have r0 : 0 ≤ m / d0 := Int.ediv_nonneg hm0 (by omega)
  have r1 : m / d0 ≤ 4096 := Int.le_trans (Int.ediv_le_self _ hm0) hm1
  unfold cx cy cz
  clear hN hm
  obtain ⟨h00, h01⟩ := h0
  obtain ⟨h10, h11⟩ := h1
  go_enter Tryz.func44, Tryz.ntmps44
  go_wp2
  obtain ⟨W, hW, hB0, b0, b1⟩ := two_start w #[I d0, I d1, I d2] #[I 0, I 0, I 0] 23 22
  rw [hW]
  clear hW
  have hmx : Tryz.prog.follows .mixedOrders = true := by kernel_rfl
  have e1 := Ext.cell b0 1
  simp at e1
  refine wp_region_tail 10 hmx (by kernel_rfl) ?_
  simp only [List.take_succ_cons, List.take_zero, List.drop_succ_cons, List.drop_zero]
  repeat (go_big_quiet_step (fail))
  refine wpQuiet_nil ?_
  intro x
  have q1 := b1.later x.le
  obtain ⟨c0, c1, c2, f0, f1, f2⟩ := q1.row
  gi_wp2
  have hBX := below_set3 (below_ext hB0 x) (Nat.le_succ _) (I (m % d0)) (I (m / d0 % d1)) (I (m / d0 / d1))
  have q3 := q1.set3 (I (m % d0)) (I (m / d0 % d1)) (I (m / d0 / d1))
  obtain ⟨j0, j1, j2, _, _, _⟩ := q3.row
  go_wp2
  exact bodyPost_ret (v := A3 (m % d0) (m / d0 % d1) (m / d0 / d1)) (by simp [results, Tryz.f44, go_sem, j0, j1, j2]) rfl ⟨rfl, hBX⟩

end Go.Proofs.YtbedhpooeabehaaGreatDoor

/-
  What the document's own answer for layer 2 (tidehallref02) gives: May, Check, Told, Canon, Many, both.
-/
namespace Go.Proofs.YtbedhpooeabehaaGreatDoor
open Go.RowKit Go.Shelf

attribute [local go_sem] Oper.semAt_some ext_const

theorem four_way (d s b : Int) : (s < 1 ∧ Hid (maySB d b s = false)) ∨ (decide (s < 1) = false ∧ d < s ∧ Hid (maySB d b s = false)) ∨ (decide (s < 1) = false ∧ decide (d < s) = false ∧ b < 0 ∧ Hid (maySB d b s = false)) ∨
    (decide (s < 1) = false ∧ decide (d < s) = false ∧ decide (b < 0) = false ∧ d ≤ b ∧ Hid (maySB d b s = false)) ∨
    (decide (s < 1) = false ∧ decide (d < s) = false ∧ decide (b < 0) = false ∧ decide (d ≤ b) = false ∧ Hid (maySB d b s = true)) := by
  have no : (s < 1 ∨ d < s ∨ b < 0 ∨ d ≤ b) → Hid (maySB d b s = false) := fun h => by
    show _ = _
    rw [← Bool.not_eq_true, maySB_iff]
    unfold mayS
    omega
  have yes : (¬ s < 1 ∧ ¬ d < s ∧ ¬ b < 0 ∧ ¬ d ≤ b) → Hid (maySB d b s = true) := fun h => (maySB_iff _ _ _).2 (by unfold mayS; omega)
  simp only [decide_eq_false_iff_not]
  by_cases h1 : s < 1
  · exact .inl ⟨h1, no (.inl h1)⟩
  · by_cases h2 : d < s
    · exact .inr (.inl ⟨h1, h2, no (.inr (.inl h2))⟩)
    · by_cases h3 : b < 0
      · exact .inr (.inr (.inl ⟨h1, h2, h3, no (.inr (.inr (.inl h3)))⟩))
      · by_cases h4 : d ≤ b
        · exact .inr (.inr (.inr (.inl ⟨h1, h2, h3, h4, no (.inr (.inr (.inr h4)))⟩)))
        · exact .inr (.inr (.inr (.inr ⟨h1, h2, h3, h4, yes ⟨h1, h2, h3, h4⟩⟩)))

set_option maxRecDepth 100000 in
set_option maxHeartbeats 8000000 in
theorem rmayb_calls (d0 d1 d2 : Int) (b : Bx) (w : World) :
    Calls Tryz.prog 54 #[A3 d0 d1 d2, B6 b] w fun e W' => e = .returned (.bool (mayBB d0 d1 d2 b)) ∧ Below w.heap.size w W' := by
  have hmx : Tryz.prog.follows .mixedOrders = true := by kernel_rfl
  go_enter Tryz.func54, Tryz.ntmps54
  go_wp2
  obtain ⟨W, hW, hB0, b0, b1⟩ := two_start w #[I d0, I d1, I d2] (C6 b) 23 27
  rw [hW]
  clear hW
  go_loopw [5] (fun i wr => (i = .int .i64 0 ∨ (i = .int .i64 1 ∧ Hid (maySB d0 b.x b.a = true)) ∨ (i = .int .i64 2 ∧ Hid (maySB d0 b.x b.a = true ∧ maySB d1 b.y b.b = true)) ∨ (i = .int .i64 3 ∧ Hid (mayBB d0 d1 d2 b = true))) ∧ Below W.heap.size W wr) (fun i _ => 3 - (RowKit.intOf i).toNat)
  case atStart => exact ⟨.inl rfl, Below.refl _ _⟩
  case round =>
    obtain ⟨hi, hT⟩ := hrel
    have q0 := b0.later hT
    have q1 := b1.later hT
    have e0 := Ext.cell q0 0
    have e1 := Ext.cell q0 1
    have e2 := Ext.cell q0 2
    have y0 := Ext.cell q1 0
    have y1 := Ext.cell q1 1
    have y2 := Ext.cell q1 2
    have y3 := Ext.cell q1 3
    have y4 := Ext.cell q1 4
    have y5 := Ext.cell q1 5
    simp at e0 e1 e2 y0 y1 y2 y3 y4 y5
    rcases hi with rfl | ⟨rfl, H⟩ | ⟨rfl, H⟩ | ⟨rfl, H⟩
    · rcases four_way d0 b.a b.x with ⟨a1, K⟩ | ⟨a1, a2, K⟩ | ⟨a1, a2, a3, K⟩ | ⟨a1, a2, a3, a4, K⟩ | ⟨a1, a2, a3, a4, K⟩
      all_goals
        go_wp2
        refine wp_region_look hmx (by kernel_rfl) ?_
        repeat (go_big_quiet_step (fail))
        refine wpQuiet_nil ?_
        intro v
        have hT := then_below hT v.le
        go_wp2
      · go_ret
        exact ⟨by rw [mayBB, K.out]; simp, then_below hB0 hT⟩
      · go_ret
        exact ⟨by rw [mayBB, K.out]; simp, then_below hB0 hT⟩
      · go_ret
        exact ⟨by rw [mayBB, K.out]; simp, then_below hB0 hT⟩
      · go_ret
        exact ⟨by rw [mayBB, K.out]; simp, then_below hB0 hT⟩
      · go_roundw
        case rel => exact ⟨.inr (.inl ⟨rfl, K.out⟩), hT⟩
        case measure => simp [RowKit.intOf]
    · rcases four_way d1 b.b b.y with ⟨a1, K⟩ | ⟨a1, a2, K⟩ | ⟨a1, a2, a3, K⟩ | ⟨a1, a2, a3, a4, K⟩ | ⟨a1, a2, a3, a4, K⟩
      all_goals
        go_wp2
        refine wp_region_look hmx (by kernel_rfl) ?_
        repeat (go_big_quiet_step (fail))
        refine wpQuiet_nil ?_
        intro v
        have hT := then_below hT v.le
        go_wp2
      · go_ret
        exact ⟨by rw [mayBB, K.out]; simp, then_below hB0 hT⟩
      · go_ret
        exact ⟨by rw [mayBB, K.out]; simp, then_below hB0 hT⟩
      · go_ret
        exact ⟨by rw [mayBB, K.out]; simp, then_below hB0 hT⟩
      · go_ret
        exact ⟨by rw [mayBB, K.out]; simp, then_below hB0 hT⟩
      · go_roundw
        case rel => exact ⟨.inr (.inr (.inl ⟨rfl, H.out, K.out⟩)), hT⟩
        case measure => simp [RowKit.intOf]
    · rcases four_way d2 b.c b.z with ⟨a1, K⟩ | ⟨a1, a2, K⟩ | ⟨a1, a2, a3, K⟩ | ⟨a1, a2, a3, a4, K⟩ | ⟨a1, a2, a3, a4, K⟩
      all_goals
        go_wp2
        refine wp_region_look hmx (by kernel_rfl) ?_
        repeat (go_big_quiet_step (fail))
        refine wpQuiet_nil ?_
        intro v
        have hT := then_below hT v.le
        go_wp2
      · go_ret
        exact ⟨by rw [mayBB, K.out]; simp, then_below hB0 hT⟩
      · go_ret
        exact ⟨by rw [mayBB, K.out]; simp, then_below hB0 hT⟩
      · go_ret
        exact ⟨by rw [mayBB, K.out]; simp, then_below hB0 hT⟩
      · go_ret
        exact ⟨by rw [mayBB, K.out]; simp, then_below hB0 hT⟩
      · go_roundw
        case rel => exact ⟨.inr (.inr (.inr ⟨rfl, by show _ = _; rw [mayBB, H.out.1, H.out.2, K.out]; rfl⟩)), hT⟩
        case measure => simp [RowKit.intOf]
    · go_wp2
      go_ret
      exact ⟨by simp [H.out], then_below hB0 hT⟩

theorem errB2_eq (d0 d1 d2 : Int) (a b : Bx) : (errB d0 d1 d2 a = 0 ∧ errB2 d0 d1 d2 a b = errB d0 d1 d2 b) ∨ ((errB d0 d1 d2 a != 0) = true ∧ errB2 d0 d1 d2 a b = errB d0 d1 d2 a) := by
  unfold errB errB2 codeOf
  cases okDB d0 d1 d2 <;> cases mayBB d0 d1 d2 a <;> cases mayBB d0 d1 d2 b <;> simp

end Go.Proofs.YtbedhpooeabehaaGreatDoor

/-
  What the document's own answer for layer 2 (tidehallref02) gives: Told, Canon, Many.
-/
namespace Go.Proofs.YtbedhpooeabehaaGreatDoor
open Go.RowKit Go.Shelf

attribute [local go_sem] Oper.semAt_some ext_const

set_option maxRecDepth 100000 in
set_option maxHeartbeats 4000000 in
theorem rtold_calls (d0 d1 d2 : Int) (b : Bx) (w : World) :
    Calls Tryz.prog 55 #[A3 d0 d1 d2, B6 b] w fun e W' => e = .returned (B6 (canonB d0 d1 d2 b)) ∧ Below w.heap.size w W' := by
  have hmx : Tryz.prog.follows .mixedOrders = true := by kernel_rfl
  obtain ⟨X, hX⟩ : ∃ X, X = (canonB d0 d1 d2 b).x := ⟨_, rfl⟩
  obtain ⟨Y, hY⟩ : ∃ Y, Y = (canonB d0 d1 d2 b).y := ⟨_, rfl⟩
  obtain ⟨Z, hZ⟩ : ∃ Z, Z = (canonB d0 d1 d2 b).z := ⟨_, rfl⟩
  have hR : B6 (canonB d0 d1 d2 b) = .agg #[I X, I Y, I Z, I b.a, I b.b, I b.c] := by rw [hX, hY, hZ]; rfl
  rw [hR]
  have HX : Hid (X = if b.a = d0 then 0 else b.x) := hX
  have HY : Hid (Y = if b.b = d1 then 0 else b.y) := hY
  have HZ : Hid (Z = if b.c = d2 then 0 else b.z) := hZ
  clear hX hY hZ hR
  go_enter Tryz.func55, Tryz.ntmps55
  go_wp2_with fail
  obtain ⟨W, hW, hs, hB, g0, g1, g2⟩ := three_start w #[I d0, I d1, I d2] (C6 b) #[I 0, I 0, I 0, I 0, I 0, I 0] 23 27 27
  rw [hW]
  clear hW
  go_loopw [5] (fun i wr => ((i = .int .i64 0 ∧ Blk wr (w.heap.size + 1) 27 (C6 b)) ∨ (i = .int .i64 1 ∧ Blk wr (w.heap.size + 1) 27 #[I X, I b.y, I b.z, I b.a, I b.b, I b.c]) ∨
    (i = .int .i64 2 ∧ Blk wr (w.heap.size + 1) 27 #[I X, I Y, I b.z, I b.a, I b.b, I b.c]) ∨ (i = .int .i64 3 ∧ Blk wr (w.heap.size + 1) 27 #[I X, I Y, I Z, I b.a, I b.b, I b.c])) ∧
    Blk wr w.heap.size 23 #[I d0, I d1, I d2] ∧ Blk wr (w.heap.size + 1 + 1) 27 #[I 0, I 0, I 0, I 0, I 0, I 0] ∧ Below w.heap.size w wr) (fun i _ => 3 - (RowKit.intOf i).toNat)
  case atStart => exact ⟨.inl ⟨rfl, g1⟩, g0, g2, hB⟩
  case round =>
    clear g0 g1 g2 hB
    obtain ⟨hi, g0, g2, hB⟩ := hrel
    have x0 := Ext.cell g0 0
    have x1 := Ext.cell g0 1
    have x2 := Ext.cell g0 2
    simp at x0 x1 x2
    rcases hi with ⟨rfl, g1⟩ | ⟨rfl, g1⟩ | ⟨rfl, g1⟩ | ⟨rfl, g1⟩
    · have y3 := Ext.cell g1 3
      simp at y3
      cases hq : b.a == d0
      · have E : X = b.x := by rw [HX.out, if_neg (by simpa using hq)]
        subst E
        go_wp2
        refine wp_region_look hmx (by kernel_rfl) ?_
        repeat (go_big_quiet_step (fail))
        refine wpQuiet_nil ?_
        intro v
        go_wp2
        go_roundw
        case rel => exact ⟨.inr (.inl ⟨rfl, g1.later v.le⟩), g0.later v.le, g2.later v.le, then_below hB v.le⟩
        case measure => simp [RowKit.intOf]
      · have E : X = 0 := by rw [HX.out, if_pos (by simpa using hq)]
        subst E
        go_wp2
        refine wp_region_look hmx (by kernel_rfl) ?_
        repeat (go_big_quiet_step (fail))
        refine wpQuiet_nil ?_
        intro v
        have q1 := g1.later v.le
        obtain ⟨⟨c0, c1, c2, c3, c4, c5⟩, f0, f1, f2, f3, f4, f5⟩ := q1.row6
        go_wp2
        go_roundw
        case rel => exact ⟨.inr (.inl ⟨rfl, q1.set 0 (I 0)⟩), (g0.later v.le).other _ _ (by omega), (g2.later v.le).other _ _ (by omega), (then_below hB v.le).setCell (p := ⟨w.heap.size + 1, 0, none⟩) (by simp) _⟩
        case measure => simp [RowKit.intOf]
    · have y3 := Ext.cell g1 4
      simp at y3
      cases hq : b.b == d1
      · have E : Y = b.y := by rw [HY.out, if_neg (by simpa using hq)]
        subst E
        go_wp2
        refine wp_region_look hmx (by kernel_rfl) ?_
        repeat (go_big_quiet_step (fail))
        refine wpQuiet_nil ?_
        intro v
        go_wp2
        go_roundw
        case rel => exact ⟨.inr (.inr (.inl ⟨rfl, g1.later v.le⟩)), g0.later v.le, g2.later v.le, then_below hB v.le⟩
        case measure => simp [RowKit.intOf]
      · have E : Y = 0 := by rw [HY.out, if_pos (by simpa using hq)]
        subst E
        go_wp2
        refine wp_region_look hmx (by kernel_rfl) ?_
        repeat (go_big_quiet_step (fail))
        refine wpQuiet_nil ?_
        intro v
        have q1 := g1.later v.le
        obtain ⟨⟨c0, c1, c2, c3, c4, c5⟩, f0, f1, f2, f3, f4, f5⟩ := q1.row6
        go_wp2
        go_roundw
        case rel => exact ⟨.inr (.inr (.inl ⟨rfl, q1.set 1 (I 0)⟩)), (g0.later v.le).other _ _ (by omega), (g2.later v.le).other _ _ (by omega), (then_below hB v.le).setCell (p := ⟨w.heap.size + 1, 1, none⟩) (by simp) _⟩
        case measure => simp [RowKit.intOf]
    · have y3 := Ext.cell g1 5
      simp at y3
      cases hq : b.c == d2
      · have E : Z = b.z := by rw [HZ.out, if_neg (by simpa using hq)]
        subst E
        go_wp2
        refine wp_region_look hmx (by kernel_rfl) ?_
        repeat (go_big_quiet_step (fail))
        refine wpQuiet_nil ?_
        intro v
        go_wp2
        go_roundw
        case rel => exact ⟨.inr (.inr (.inr ⟨rfl, g1.later v.le⟩)), g0.later v.le, g2.later v.le, then_below hB v.le⟩
        case measure => simp [RowKit.intOf]
      · have E : Z = 0 := by rw [HZ.out, if_pos (by simpa using hq)]
        subst E
        go_wp2
        refine wp_region_look hmx (by kernel_rfl) ?_
        repeat (go_big_quiet_step (fail))
        refine wpQuiet_nil ?_
        intro v
        have q1 := g1.later v.le
        obtain ⟨⟨c0, c1, c2, c3, c4, c5⟩, f0, f1, f2, f3, f4, f5⟩ := q1.row6
        go_wp2
        go_roundw
        case rel => exact ⟨.inr (.inr (.inr ⟨rfl, q1.set 2 (I 0)⟩)), (g0.later v.le).other _ _ (by omega), (g2.later v.le).other _ _ (by omega), (then_below hB v.le).setCell (p := ⟨w.heap.size + 1, 2, none⟩) (by simp) _⟩
        case measure => simp [RowKit.intOf]
    · obtain ⟨⟨c0, c1, c2, c3, c4, c5⟩, _⟩ := g1.row6
      obtain ⟨⟨k0, k1, k2, k3, k4, k5⟩, f0, f1, f2, f3, f4, f5⟩ := g2.row6
      clear x0 x1 x2
      go_wp2
      obtain ⟨⟨j0, j1, j2, j3, j4, j5⟩, _⟩ := (g2.set6 (I X) (I Y) (I Z) (I b.a) (I b.b) (I b.c)).row6
      have hBX := below_set6 hB (show w.heap.size ≤ w.heap.size + 1 + 1 by omega) (I X) (I Y) (I Z) (I b.a) (I b.b) (I b.c)
      exact bodyPost_ret (v := .agg #[I X, I Y, I Z, I b.a, I b.b, I b.c]) (by simp [results, Tryz.f55, go_sem, j0, j1, j2, j3, j4, j5]) rfl ⟨rfl, hBX⟩

end Go.Proofs.YtbedhpooeabehaaGreatDoor

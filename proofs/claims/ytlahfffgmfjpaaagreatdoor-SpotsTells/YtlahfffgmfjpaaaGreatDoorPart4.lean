/-
  box.side's coords: the coordinates of a side, rising, in new memory.
-/
import Derived.Test.YtlahfffgmfjpaaaGreatDoorPart3
namespace Go.Proofs.YtlahfffgmfjpaaaGreatDoor
open Go.RowKit Go.Shelf

attribute [local go_sem] Oper.semAt_some ext_const

def coordsTo (r b s : Int) (k : Nat) : List Int := ((List.range k).filter (fun j : Nat => hasS r b s j)).map (fun j : Nat => (j : Int))
def coordsS (r b s : Int) : List Int := coordsTo r b s r.toNat
theorem coordsTo_len (r b s : Int) (k : Nat) : (coordsTo r b s k).length ≤ k := by
  have := List.length_filter_le (fun j : Nat => hasS r b s j) (List.range k)
  simpa [coordsTo] using this
theorem coordsTo_yes {r b s : Int} {k : Nat} (h : hasS r b s k = true) : coordsTo r b s (k + 1) = coordsTo r b s k ++ [(k : Int)] := by
  simp [coordsTo, List.range_succ, List.filter_append, h]
theorem coordsTo_no {r b s : Int} {k : Nat} (h : hasS r b s k = false) : coordsTo r b s (k + 1) = coordsTo r b s k := by
  simp [coordsTo, List.range_succ, List.filter_append, h]

set_option maxRecDepth 100000 in
set_option maxHeartbeats 2000000 in
theorem coords_calls {r b s : Int} (w : World) (hr : r ≤ 16) (h : mayS r b s) :
    Calls Tryz.prog 137 #[A3 r b s] w fun e W' => ∃ v, e = .returned v ∧ Lst W' w.heap.size v (coordsS r b s) ∧ Below w.heap.size w W' := by
  have HH : Hid (∀ (w : World) (k : Int), 0 ≤ k → k < r → Calls Tryz.prog 143 #[A3 r b s, I k] w fun e W' => e = .returned (.bool (hasS r b s k)) ∧ Below w.heap.size w W') :=
    fun w k h0 h1 => has_calls s w hr h.2 ⟨h0, h1⟩
  obtain ⟨⟨s0, s1⟩, b0', b1'⟩ := h
  unfold coordsS
  go_enter Tryz.func137, Tryz.ntmps137
  have hB0 : Below w.heap.size w (w.alloc (.cells #[I r, I b, I s] 165)) := (Below.refl _ w).alloc (Nat.le_refl _) _
  have b0 := Blk.new w 165 #[I r, I b, I s]
  go_wp2_with (at_make; refine wpList_mk (base := (w.alloc (.cells #[I r, I b, I s] 165)).heap.size) rfl _ _ rfl s rfl rfl (by omega) (by omega) (Nat.le_refl _) ?_; intro v1 w1 hL1 hT1; obtain ⟨c0, c1, c2, hz⟩ := b0.three hT1)
  generalize w.alloc (.cells #[I r, I b, I s] 165) = W at *
  clear c0 c1 c2 hz
  go_loopw [3, 10] (fun v i wr => ∃ k : Nat, (k : Int) ≤ r ∧ i = .int .i64 k ∧ Lst wr W.heap.size v (coordsTo r b s k) ∧ Below W.heap.size W wr) (fun _ i _ => r.toNat - (RowKit.intOf i).toNat)
  case atStart => exact ⟨0, by omega, rfl, hL1, hT1⟩
  case round =>
    clear hL1 hT1
    obtain ⟨k, hk, rfl, hL, hT⟩ := hrel
    obtain ⟨c0, c1, c2, hz⟩ := b0.three hT
    by_cases hlt : (k : Int) < r
    · go_wp2_with fail
      refine (HH.out _ k (by omega) hlt).mono ?_
      rintro e w2 ⟨rfl, hB2⟩
      have hL := hL.later hB2
      have hT := then_below hT hB2
      clear c0 c1 c2 hz hB2
      cases hq : hasS r b s k
      · go_wp2
        go_roundw
        case rel => exact ⟨k + 1, by omega, by go_num, by rw [coordsTo_no hq]; exact hL, hT⟩
        case measure => simp [RowKit.intOf]; omega
      · go_wp2_with (at_builtin; refine wpList_app rfl _ _ rfl rfl rfl hL (by have := coordsTo_len r b s k; omega) hT.size ?_; intro v' w3 hL3 hT3)
        have hT := hT.trans hT3
        rw [← coordsTo_yes hq] at hL3
        clear hT3 hL
        go_roundw
        case rel => exact ⟨k + 1, by omega, by go_num, hL3, hT⟩
        case measure => simp [RowKit.intOf]; omega
    · have E : r.toNat = k := by omega
      have hL' : Lst wr w.heap.size _ (coordsTo r b s r.toNat) := (E ▸ hL).weak hB0.size
      clear hL E
      go_wp2
      go_ret
      exact ⟨_, rfl, hL', then_below hB0 hT⟩

end Go.Proofs.YtlahfffgmfjpaaaGreatDoor

/-
  box.along and the four closures that it is handed; box.check, of one box and of two.
-/
namespace Go.Proofs.YtlahfffgmfjpaaaGreatDoor
open Go.RowKit Go.Shelf

attribute [local go_sem] Oper.semAt_some ext_const

/-- A closure answers p of each axis, in every world that keeps what lay in w. -/
def Answers (f : FuncId) (caps : Array Value) (w : World) (p : Fin 3 → Bool) : Prop :=
  ∀ (x : Ext w) (k : Fin 3), Calls Tryz.prog f (#[I (axI k)] ++ caps) x.wd fun e W' => e = .returned (.bool (p k)) ∧ Below x.wd.heap.size x.wd W'

set_option maxRecDepth 100000 in
set_option maxHeartbeats 2000000 in
theorem along_ck {f : FuncId} {caps : Array Value} {p : Fin 3 → Bool} (w : World) (hf : f = 106 ∧ ∃ a b, caps = #[a, b]) (h : Answers f caps w p) :
    Calls Tryz.prog 105 #[.func (.func f) #[] caps] w fun e W' => e = .returned (.bool (p 0 && p 1 && p 2)) ∧ Below w.heap.size w W' := by
  have H : Hid (Answers f caps w p) := h
  clear h
  obtain ⟨rfl, a, b, rfl⟩ := hf
  all_goals
    go_enter Tryz.func105, Tryz.ntmps105
    go_wp2
    go_loopw [4] (fun i wr => ((i = .int .i64 0 ∧ True) ∨ (i = .int .i64 1 ∧ p 0 = true) ∨ (i = .int .i64 2 ∧ p 0 = true ∧ p 1 = true) ∨ (i = .int .i64 3 ∧ p 0 = true ∧ p 1 = true ∧ p 2 = true)) ∧ Below w.heap.size w wr) (fun i _ => 3 - (RowKit.intOf i).toNat)
    case atStart => exact ⟨.inl ⟨rfl, trivial⟩, Below.refl _ _⟩
    case round =>
      obtain ⟨hi, hT⟩ := hrel
      rcases hi with ⟨rfl, _⟩ | ⟨rfl, h0⟩ | ⟨rfl, h0, h1⟩ | ⟨rfl, h0, h1, h2⟩
      · go_wp2_with fail
        refine (H.out ⟨wr, hT⟩ 0).mono ?_
        rintro e w1 ⟨rfl, hB⟩
        cases hp : p 0
        · go_wp2
          go_ret
          exact ⟨by simp [hp], then_below hT hB⟩
        · go_wp2
          go_roundw
          case rel => exact ⟨.inr (.inl ⟨rfl, hp⟩), then_below hT hB⟩
          case measure => simp [RowKit.intOf]
      · go_wp2_with fail
        refine (H.out ⟨wr, hT⟩ 1).mono ?_
        rintro e w1 ⟨rfl, hB⟩
        cases hp : p 1
        · go_wp2
          go_ret
          exact ⟨by simp [hp], then_below hT hB⟩
        · go_wp2
          go_roundw
          case rel => exact ⟨.inr (.inr (.inl ⟨rfl, h0, hp⟩)), then_below hT hB⟩
          case measure => simp [RowKit.intOf]
      · go_wp2_with fail
        refine (H.out ⟨wr, hT⟩ 2).mono ?_
        rintro e w1 ⟨rfl, hB⟩
        cases hp : p 2
        · go_wp2
          go_ret
          exact ⟨by simp [hp], then_below hT hB⟩
        · go_wp2
          go_roundw
          case rel => exact ⟨.inr (.inr (.inr ⟨rfl, h0, h1, hp⟩)), then_below hT hB⟩
          case measure => simp [RowKit.intOf]
      · go_wp2
        go_ret
        exact ⟨by simp [h0, h1, h2], hT⟩

theorem ans_check {w : World} {D B : Nat} {d0 d1 d2 : Int} {b : Bx} (hd : Blk w D 23 #[I d0, I d1, I d2]) (hb : Blk w B 30 #[I b.x, I b.y, I b.z, I b.a, I b.b, I b.c]) :
    Answers 106 #[.pointer (some ⟨D, 0, none⟩), .pointer (some ⟨B, 0, none⟩)] w (fun k => maySB (dimAt d0 d1 d2 k) (bAt b k) (sAt b k)) := by
  intro x k
  obtain ⟨c0, c1, c2, hz⟩ := hd.three x.le
  obtain ⟨⟨k0, k1, k2⟩, ⟨k3, k4, k5⟩, hz1⟩ := hb.six x.le
  simp only [List.append_toArray, List.cons_append, List.nil_append]
  go_enter Tryz.func106, Tryz.ntmps106
  go_wp2_with fail
  refine (side_calls d0 d1 d2 b k _).mono ?_
  rintro e w1 ⟨rfl, hB1⟩
  go_wp2_with fail
  refine (maybe_calls _ _ _ _).mono ?_
  rintro e w2 ⟨rfl, hB2⟩
  go_wp2
  go_ret
  exact ⟨rfl, then_below hB1 hB2⟩

end Go.Proofs.YtlahfffgmfjpaaaGreatDoor

/-
  box.check, of one box and of two; box.Check: what each call answers.
-/
namespace Go.Proofs.YtlahfffgmfjpaaaGreatDoor
open Go.RowKit Go.Shelf

attribute [local go_sem] Oper.semAt_some ext_const

def codeOf (b : Bool) : Int := if b then 0 else 2

theorem chk_bad {d0 d1 d2 : Int} (v : Value) (w : World) (hm : ¬ mayD d0 d1 d2) :
    Calls Tryz.prog 80 #[A3 d0 d1 d2, v] w fun e W' => e = .returned (I 8) ∧ Below w.heap.size w W' := by
  go_enter Tryz.func80, Tryz.ntmps80
  go_wp2_with fail
  refine (check_no _ hm).mono ?_
  rintro e w1 ⟨rfl, hB⟩
  go_wp2
  go_ret
  exact ⟨rfl, then_below ((Below.refl _ w).alloc (Nat.le_refl _) _) hB⟩

/-- The calls of box.along in box.check. -/
theorem along_check {w : World} {D B : Nat} {d0 d1 d2 : Int} {b : Bx} (hd : Blk w D 23 #[I d0, I d1, I d2]) (hb : Blk w B 30 #[I b.x, I b.y, I b.z, I b.a, I b.b, I b.c]) :
    Calls Tryz.prog 105 #[.func (.func 106) #[] #[.pointer (some ⟨D, 0, none⟩), .pointer (some ⟨B, 0, none⟩)]] w fun e W' => e = .returned (.bool (mayBB d0 d1 d2 b)) ∧ Below w.heap.size w W' :=
  along_ck w ⟨rfl, _, _, rfl⟩ (ans_check hd hb)

set_option maxRecDepth 100000 in
set_option maxHeartbeats 2000000 in
theorem chk_one {d0 d1 d2 : Int} {b : Bx} (S : Nat) (w : World) (hm : mayD d0 d1 d2) (hS : Blk w S 30 #[I b.x, I b.y, I b.z, I b.a, I b.b, I b.c]) :
    Calls Tryz.prog 80 #[A3 d0 d1 d2, .slice (some ⟨S, 0, none⟩) 1 1] w fun e W' => e = .returned (I (codeOf (mayBB d0 d1 d2 b))) ∧ Below w.heap.size w W' := by
  go_enter Tryz.func80, Tryz.ntmps80
  go_wp2_with fail
  have hB0 : Below w.heap.size w (w.alloc (.cells #[I d0, I d1, I d2] 23)) := (Below.refl _ w).alloc (Nat.le_refl _) _
  have b0 := Blk.new w 23 #[I d0, I d1, I d2]
  have b1 := hS.later hB0
  generalize w.alloc (.cells #[I d0, I d1, I d2] 23) = W at *
  refine (check_yes _ hm).mono ?_
  rintro e w1 ⟨rfl, hT⟩
  go_wp2_with fail
  go_loopw [16] (fun i wr => ((i = .int .i64 0) ∨ (i = .int .i64 1 ∧ mayBB d0 d1 d2 b = true)) ∧ Below W.heap.size W wr) (fun i _ => 1 - (RowKit.intOf i).toNat)
  case atStart => exact ⟨.inl rfl, hT⟩
  case round =>
    obtain ⟨hi, hT⟩ := hrel
    rcases hi with rfl | ⟨rfl, h0⟩
    · obtain ⟨⟨k0, k1, k2⟩, ⟨k3, k4, k5⟩, hz1⟩ := b1.six hT
      go_wp2_with fail
      have q0 := (b0.later hT).alloc (.cells #[I b.x, I b.y, I b.z, I b.a, I b.b, I b.c] 30)
      have q1 := Blk.new wr 30 #[I b.x, I b.y, I b.z, I b.a, I b.b, I b.c]
      have hT := then_alloc hT (.cells #[I b.x, I b.y, I b.z, I b.a, I b.b, I b.c] 30)
      refine (along_check q0 q1).mono ?_
      rintro e w2 ⟨rfl, hB⟩
      cases hp : mayBB d0 d1 d2 b
      · go_wp2
        go_ret
        exact ⟨by simp [codeOf, hp], then_below hB0 (then_below hT hB)⟩
      · go_wp2
        go_roundw
        case rel => exact ⟨.inr ⟨rfl, hp⟩, then_below hT hB⟩
        case measure => simp [RowKit.intOf]
    · go_wp2
      go_ret
      exact ⟨by simp [codeOf, h0], then_below hB0 hT⟩

/-- The error of a box. -/
def errB (d0 d1 d2 : Int) (b : Bx) : Int := if okDB d0 d1 d2 then codeOf (mayBB d0 d1 d2 b) else 8
def errB2 (d0 d1 d2 : Int) (a b : Bx) : Int := if okDB d0 d1 d2 then codeOf (mayBB d0 d1 d2 a && mayBB d0 d1 d2 b) else 8

theorem chk1 {d0 d1 d2 : Int} {b : Bx} (S : Nat) (w : World) (hS : Blk w S 30 #[I b.x, I b.y, I b.z, I b.a, I b.b, I b.c]) :
    Calls Tryz.prog 80 #[A3 d0 d1 d2, .slice (some ⟨S, 0, none⟩) 1 1] w fun e W' => e = .returned (I (errB d0 d1 d2 b)) ∧ Below w.heap.size w W' := by
  by_cases hm : mayD d0 d1 d2
  · rw [errB, if_pos ((okDB_iff _ _ _).2 hm)]; exact chk_one S w hm hS
  · rw [errB, if_neg (by rw [okDB_iff]; exact hm)]; exact chk_bad _ w hm
end Go.Proofs.YtlahfffgmfjpaaaGreatDoor

/-
  box.many, box.Many, box.Canon: what each call answers.
-/
namespace Go.Proofs.YtlahfffgmfjpaaaGreatDoor
open Go.RowKit Go.Shelf

attribute [local go_sem] Oper.semAt_some ext_const

theorem Blk.set6 {W : World} {B : Nat} {t : TypeId} {x0 x1 x2 x3 x4 x5 : Value} (h : Blk W B t #[x0, x1, x2, x3, x4, x5]) (a b c d e f : Value) :
    Blk ((((((W.setCell ⟨B, 0, none⟩ a).setCell ⟨B, 1, none⟩ b).setCell ⟨B, 2, none⟩ c).setCell ⟨B, 3, none⟩ d).setCell ⟨B, 4, none⟩ e).setCell ⟨B, 5, none⟩ f) B t #[a, b, c, d, e, f] :=
  (((((h.set 0 a).set 1 b).set 2 c).set 3 d).set 4 e).set 5 f
theorem below_set6 {n : Nat} {w W : World} {B : Nat} (h : Below n w W) (hn : n ≤ B) (a b c d e f : Value) :
    Below n w ((((((W.setCell ⟨B, 0, none⟩ a).setCell ⟨B, 1, none⟩ b).setCell ⟨B, 2, none⟩ c).setCell ⟨B, 3, none⟩ d).setCell ⟨B, 4, none⟩ e).setCell ⟨B, 5, none⟩ f) :=
  (((((h.setCell (p := ⟨B, 0, none⟩) hn a).setCell (p := ⟨B, 1, none⟩) hn b).setCell (p := ⟨B, 2, none⟩) hn c).setCell (p := ⟨B, 3, none⟩) hn d).setCell (p := ⟨B, 4, none⟩) hn e).setCell (p := ⟨B, 5, none⟩) hn f
theorem Blk.row6 {W : World} {B : Nat} {t : TypeId} {a b c d e f : Value} (h : Blk W B t #[a, b, c, d, e, f]) :
    (W.cell? ⟨B, 0, none⟩ = some a ∧ W.cell? ⟨B, 1, none⟩ = some b ∧ W.cell? ⟨B, 2, none⟩ = some c ∧ W.cell? ⟨B, 3, none⟩ = some d ∧ W.cell? ⟨B, 4, none⟩ = some e ∧ W.cell? ⟨B, 5, none⟩ = some f) ∧
    (W.frozen? ⟨B, 0, none⟩ = false ∧ W.frozen? ⟨B, 1, none⟩ = false ∧ W.frozen? ⟨B, 2, none⟩ = false ∧ W.frozen? ⟨B, 3, none⟩ = false ∧ W.frozen? ⟨B, 4, none⟩ = false ∧ W.frozen? ⟨B, 5, none⟩ = false) :=
  ⟨⟨h.cell 0, h.cell 1, h.cell 2, h.cell 3, h.cell 4, h.cell 5⟩, h.frozen 0, h.frozen 1, h.frozen 2, h.frozen 3, h.frozen 4, h.frozen 5⟩

/-- A box that may be is small. -/
theorem sizes_bd {d0 d1 d2 : Int} {b : Bx} (hm : mayD d0 d1 d2) (hb : mayB d0 d1 d2 b) : (1 ≤ b.a ∧ b.a ≤ 16) ∧ (1 ≤ b.b ∧ b.b ≤ 16) ∧ (1 ≤ b.c ∧ b.c ≤ 16) := by
  obtain ⟨h0, h1, h2⟩ := hm
  unfold okD at h0 h1 h2
  obtain ⟨⟨g0, _⟩, ⟨g1, _⟩, ⟨g2, _⟩⟩ := hb
  omega

set_option maxHeartbeats 1000000 in
theorem bmany_calls {b : Bx} (w : World) (ha : 1 ≤ b.a ∧ b.a ≤ 16) (hb : 1 ≤ b.b ∧ b.b ≤ 16) (hc : 1 ≤ b.c ∧ b.c ≤ 16) :
    Calls Tryz.prog 138 #[B6 b] w fun e W' => e = .returned (I (manyB b)) ∧ Below w.heap.size w W' := by
  have p1 : 0 ≤ b.a * b.b ∧ b.a * b.b ≤ 16 * 16 := mul_bd (by omega) ha.2 (by omega) hb.2
  have p2 : 0 ≤ b.a * b.b * b.c ∧ b.a * b.b * b.c ≤ 16 * 16 * 16 := mul_bd p1.1 p1.2 (by omega) hc.2
  unfold manyB
  obtain ⟨a0, a1⟩ := ha
  obtain ⟨b0, b1⟩ := hb
  obtain ⟨c0, c1⟩ := hc
  obtain ⟨p10, p11⟩ := p1
  obtain ⟨p20, p21⟩ := p2
  go_enter Tryz.func138, Tryz.ntmps138
  go_wp2
  go_loop [3, 5] (fun n i => (i = .int .i64 0 ∧ n = I 1) ∨ (i = .int .i64 1 ∧ n = I b.a) ∨ (i = .int .i64 2 ∧ n = I (b.a * b.b)) ∨ (i = .int .i64 3 ∧ n = I (b.a * b.b * b.c))) (fun _ i => 3 - (RowKit.intOf i).toNat)
  case atStart => exact .inl ⟨rfl, rfl⟩
  case round =>
    rcases hrel with ⟨rfl, rfl⟩ | ⟨rfl, rfl⟩ | ⟨rfl, rfl⟩ | ⟨rfl, rfl⟩
    · go_wp2
      go_round
      case rel => exact .inr (.inl ⟨rfl, by simp⟩)
      case measure => simp [RowKit.intOf]
    · go_wp2
      go_round
      case rel => exact .inr (.inr (.inl ⟨rfl, rfl⟩))
      case measure => simp [RowKit.intOf]
    · go_wp2
      go_round
      case rel => exact .inr (.inr (.inr ⟨rfl, rfl⟩))
      case measure => simp [RowKit.intOf]
    · go_wp2
      go_ret
      exact ⟨rfl, (Below.refl _ w).alloc (Nat.le_refl _) _⟩

theorem errB_ok {d0 d1 d2 : Int} {b : Bx} (hm : mayD d0 d1 d2) (hb : mayB d0 d1 d2 b) : errB d0 d1 d2 b = 0 := by
  rw [errB, if_pos ((okDB_iff _ _ _).2 hm), (mayBB_iff _ _ _ _).2 hb]; rfl
theorem errB_no {d0 d1 d2 : Int} {b : Bx} (hm : mayD d0 d1 d2) (hb : ¬ mayB d0 d1 d2 b) : errB d0 d1 d2 b = 2 := by
  rw [errB, if_pos ((okDB_iff _ _ _).2 hm), mayBB_no hb]; rfl
theorem errB_bad {d0 d1 d2 : Int} {b : Bx} (hm : ¬ mayD d0 d1 d2) : errB d0 d1 d2 b = 8 := by
  rw [errB, if_neg (by rw [okDB_iff]; exact hm)]
theorem errB_cases (d0 d1 d2 : Int) (b : Bx) : (mayD d0 d1 d2 ∧ mayB d0 d1 d2 b ∧ errB d0 d1 d2 b = 0) ∨ ((errB d0 d1 d2 b = 2 ∨ errB d0 d1 d2 b = 8) ∧ ¬ (mayD d0 d1 d2 ∧ mayB d0 d1 d2 b)) := by
  by_cases hm : mayD d0 d1 d2
  · by_cases hb : mayB d0 d1 d2 b
    · exact .inl ⟨hm, hb, errB_ok hm hb⟩
    · exact .inr ⟨.inl (errB_no hm hb), fun h => hb h.2⟩
  · exact .inr ⟨.inr (errB_bad hm), fun h => hm h.1⟩

end Go.Proofs.YtlahfffgmfjpaaaGreatDoor

/-
  pos.At: the midplane at coordinates, for every input; nothing that lay before is turned.
-/
namespace Go.Proofs.YtlahfffgmfjpaaaGreatDoor
open Go.RowKit Go.Shelf

attribute [local go_sem] Oper.semAt_some ext_const

/-- The four blocks that the call lays first. -/
theorem at_start (w : World) (u0 u1 u2 u3 : Array Value) (t0 t1 t2 t3 : TypeId) :
    ∃ W : World, (((w.alloc (.cells u0 t0)).alloc (.cells u1 t1)).alloc (.cells u2 t2)).alloc (.cells u3 t3) = W ∧ W.heap.size = w.heap.size + 4 ∧ Below w.heap.size w W ∧
      Blk W w.heap.size t0 u0 ∧ Blk W (w.heap.size + 1) t1 u1 ∧ Blk W (w.heap.size + 1 + 1) t2 u2 ∧ Blk W (w.heap.size + 1 + 1 + 1) t3 u3 := by
  refine ⟨_, rfl, by simp, ((((Below.refl _ w).alloc (Nat.le_refl _) _).alloc (by simp) _).alloc (by simp; omega) _).alloc (by simp; omega) _, ?_, ?_, ?_, ?_⟩
  · exact (((Blk.new w t0 u0).alloc _).alloc _).alloc _
  · have := ((Blk.new (w.alloc (.cells u0 t0)) t1 u1).alloc (.cells u2 t2)).alloc (.cells u3 t3); simpa using this
  · have := (Blk.new ((w.alloc (.cells u0 t0)).alloc (.cells u1 t1)) t2 u2).alloc (.cells u3 t3); simpa using this
  · have := Blk.new (((w.alloc (.cells u0 t0)).alloc (.cells u1 t1)).alloc (.cells u2 t2)) t3 u3; simpa using this

set_option maxRecDepth 100000 in
set_option maxHeartbeats 2000000 in
theorem at_loop {d0 d1 d2 : Int} (p0 p1 p2 : Int) (w : World) (hm : mayD d0 d1 d2) :
    Calls Tryz.prog 48 #[A3 d0 d1 d2, A3 p0 p1 p2] w fun e W' => ((inD d0 d1 d2 p0 p1 p2 ∧ e = .returned (.tuple #[I (numD d0 d1 p0 p1 p2), I 0])) ∨ (¬ inD d0 d1 d2 p0 p1 p2 ∧ e = .returned (.tuple #[I 0, I 2]))) ∧ Below w.heap.size w W' := by
  refine (callsIn_wide (n := 3)).1 ?_
  refine callsIn_of_wp_marks Tryz.func48 rfl trivial ?_ rfl
  simp only [Tryz.ntmps48, List.size_toArray, List.length_cons, List.length_nil, Nat.reduceAdd, Nat.reduceSub, Array.replicate_succ, Array.replicate_zero, List.push_toArray, List.append_toArray, List.nil_append, List.cons_append]
  gi_wp2_with fail
  obtain ⟨W, hW, hs, hB0, b0, b1, b2, b3⟩ := at_start w #[I d0, I d1, I d2] #[I p0, I p1, I p2] #[I 0] #[I 0] 23 22 3 35
  rw [hW]
  clear hW
  refine ⟨trivial, ?_⟩
  refine (callsIn_wide.2 (check_yes _ hm)).mono ?_
  rintro e w1 ⟨rfl, hB⟩
  have hz : w.heap.size + 4 ≤ w1.heap.size := by have := hB.size; omega
  have g0 := b0.later hB
  have g1 := b1.later hB
  have g2 := b2.later hB
  have g3 := b3.later hB
  have hB1 : Below w.heap.size w w1 := hB0.trans (hB.mono (by omega))
  have hz0 : w.heap.size < w1.heap.size := by omega
  have hz1 : w.heap.size + 1 < w1.heap.size := by omega
  have hz2 : w.heap.size + 1 + 1 < w1.heap.size := by omega
  have hz3 : w.heap.size + 1 + 1 + 1 < w1.heap.size := by omega
  clear hB b0 b1 b2 b3 hB0 hs
  have c0 := g0.cell 0
  have c1 := g0.cell 1
  have c2 := g0.cell 2
  simp at c0 c1 c2
  gi_wp2_with (refine ⟨trivial, ?_⟩; gi_at_call 65; refine (callsIn_wide.2 (axes_calls _ _ _ _)).mono ?_; rintro e w' ⟨rfl, rfl⟩)
  obtain ⟨W, hW⟩ : ∃ W, (w1.alloc (.cells #[I 0] 3)).alloc (.cells #[I d0, I d1, I d2] 23) = W := ⟨_, rfl⟩
  have q0 : Blk W w.heap.size 23 #[I d0, I d1, I d2] := hW ▸ (g0.alloc _).alloc _
  have q1 : Blk W (w.heap.size + 1) 22 #[I p0, I p1, I p2] := hW ▸ (g1.alloc _).alloc _
  have q2 : Blk W (w.heap.size + 1 + 1) 3 #[I 0] := hW ▸ (g2.alloc _).alloc _
  have q3 : Blk W (w.heap.size + 1 + 1 + 1) 35 #[I 0] := hW ▸ (g3.alloc _).alloc _
  have q4 : Blk W w1.heap.size 3 #[I 0] := hW ▸ (Blk.new w1 3 #[I 0]).alloc _
  have q5 : Blk W (w1.heap.size + 1) 23 #[I d0, I d1, I d2] := by
    have := Blk.new (w1.alloc (.cells #[I 0] 3)) 23 #[I d0, I d1, I d2]
    rw [World.size_alloc] at this; exact hW ▸ this
  have hBW : Below w.heap.size w W := hW ▸ (hB1.alloc hB1.size _).alloc (by simp; omega) _
  have hsW : W.heap.size = w1.heap.size + 2 := by rw [← hW]; simp
  rw [hW]
  clear hW g0 g1 g2 g3 c0 c1 c2 hB1
  refine wpIn_axes (w1.heap.size + 1) d0 d1 d2 rfl q5 rfl
    (fun pre W => ((∀ k ∈ pre, inK d0 d1 d2 p0 p1 p2 k) ∧ Blk W w.heap.size 23 #[I d0, I d1, I d2] ∧ Blk W (w.heap.size + 1) 22 #[I p0, I p1, I p2] ∧ Blk W (w.heap.size + 1 + 1) 3 #[I 0] ∧ Blk W (w.heap.size + 1 + 1 + 1) 35 #[I 0] ∧ Blk W w1.heap.size 3 #[I (numL d0 d1 p0 p1 p2 pre)]) ∧ Below w.heap.size w W)
    (fun c pre W => (c = .ret ∧ (∃ k ∈ pre, ¬ inK d0 d1 d2 p0 p1 p2 k) ∧ Blk W (w.heap.size + 1 + 1) 3 #[I 0] ∧ Blk W (w.heap.size + 1 + 1 + 1) 35 #[I 2]) ∧ Below w.heap.size w W)
    (OwnFrom.and (Own.from (own_and (own_pure _) (own_and (blk_own _ _ _) (own_and (blk_own _ _ _) (own_and (blk_own _ _ _) (own_and (blk_own _ _ _) (blk_own _ _ _)))))) _) (ownFrom_below (Nat.le_refl _) (by omega)))
    (fun c => OwnFrom.and (Own.from (own_and (own_pure _) (own_and (own_pure _) (own_and (blk_own _ _ _) (blk_own _ _ _)))) _) (ownFrom_below (Nat.le_refl _) (by omega)))
    ⟨⟨by simp, q0, q1, q2, q3, q4⟩, hBW⟩
    (fun x => { tmps := #[A3 d0 d1 d2, A3 p0 p1 p2, .pointer (some ⟨w.heap.size, 0, none⟩), .pointer (some ⟨w.heap.size + 1, 0, none⟩), .pointer (some ⟨w.heap.size + 1 + 1, 0, none⟩), .pointer (some ⟨w.heap.size + 1 + 1 + 1, 0, none⟩), I 0, .pointer (some ⟨w1.heap.size, 0, none⟩), .int .i64 (axI x), .int .i64 (strd d0 d1 x), A3 d0 d1 d2, I 0, I 0, .bool false, undef, A3 d0 d1 d2, .func (.func 93) #[] #[.pointer (some ⟨w1.heap.size + 1, 0, none⟩)], .int .i64 (axI x), .int .i64 (strd d0 d1 x), undef, undef, undef, undef, undef, undef, undef, undef, undef, undef, undef, undef, undef, undef, undef, undef], defers := [] }) ?assign ?body ?done ?stop
  case assign =>
    intro l x W K hK
    gi_wp2
    exact hK
  case body =>
    clear q0 q1 q2 q3 q4 q5 hBW hsW
    rintro l pre x W ⟨⟨hp, q0, q1, q2, q3, q4⟩, hB⟩ hlen
    have hmx : Tryz.prog.follows .mixedOrders = true := by kernel_rfl
    have e0 := Ext.cell q0 0
    have e1 := Ext.cell q0 1
    have e2 := Ext.cell q0 2
    have e3 := Ext.cell q1 0
    have e4 := Ext.cell q1 1
    have e5 := Ext.cell q1 2
    simp at e0 e1 e2 e3 e4 e5
    by_cases hx : inK d0 d1 d2 p0 p1 p2 x
    · have HW : Hid (wrap64 (numL d0 d1 p0 p1 p2 pre + wrap64 (dimAt p0 p1 p2 x * strd d0 d1 x)) = numL d0 d1 p0 p1 p2 (pre ++ [x])) := numL_snoc hm pre x hlen hp hx
      have hb : belowB (dimAt p0 p1 p2 x) (dimAt d0 d1 d2 x) = true := by unfold inK at hx; simp [belowB, hx.1, hx.2]
      generalize hst : strd d0 d1 x = st at *
      have Hst := hst
      clear hst
      rcases fin3 x with rfl | rfl | rfl
      all_goals
        simp only [axI, dimAt] at hb ⊢
        gi_wp2
        refine wpIn_region_look (loose_round _ l) hmx (by kernel_rfl) ?_
        repeat (go_big_quiet_step (exact calls_ext_same (below_calls _ _ _)))
        refine wpQuiet_nil ?_
        intro x
        gi_wp2
        have r1 := q1.later x.le
        have r4 := q4.later x.le
        have e3 := Ext.cell r1 0
        have e4 := Ext.cell r1 1
        have e5 := Ext.cell r1 2
        have e6 := Ext.cell r4 0
        simp at e3 e4 e5 e6
        refine wpIn_region_tail 7 (loose_round _ l) hmx (by kernel_rfl) ?_
        simp only [List.take_succ_cons, List.take_zero, List.drop_succ_cons, List.drop_zero]
        repeat (go_big_quiet_step (fail))
        refine wpQuiet_nil ?_
        intro y
        have g3 := Ext.frozen r4 0 y
        have e6 := e6 y
        gi_wp2
        refine ⟨((keeps_below x.le).trans (keeps_below y.le)).trans (KeepsOthers.setCell _ _ _), trivial, ⟨fun k hk => ?_, ((q0.later x.le).later y.le).other 0 _ (by omega), ((q1.later x.le).later y.le).other 0 _ (by omega), ((q2.later x.le).later y.le).other 0 _ (by omega), ((q3.later x.le).later y.le).other 0 _ (by omega), ?_⟩, (below_ext (below_ext hB x) y).setCell (p := ⟨w1.heap.size, 0, none⟩) (by simp; omega) _⟩
        · rcases List.mem_append.1 hk with h | h
          · exact hp k h
          · simp at h; subst h; exact hx
        · rw [← HW.out]
          exact (r4.later y.le).set 0 _
    · have hb : belowB (dimAt p0 p1 p2 x) (dimAt d0 d1 d2 x) = false := by unfold inK at hx; simp [belowB]; omega
      generalize hst : strd d0 d1 x = st at *
      clear hst
      rcases fin3 x with rfl | rfl | rfl
      all_goals
        simp only [axI, dimAt] at hb ⊢
        gi_wp2
        refine wpIn_region_look (loose_round _ l) hmx (by kernel_rfl) ?_
        repeat (go_big_quiet_step (exact calls_ext_same (below_calls _ _ _)))
        refine wpQuiet_nil ?_
        intro x
        have r2 := q2.later x.le
        have r3 := q3.later x.le
        have c2 := r2.cell 0
        have c3 := r3.cell 0
        have f2 := r2.frozen 0
        have f3 := r3.frozen 0
        simp at c2 c3
        gi_wp2
        exact ⟨((keeps_below x.le).trans (KeepsOthers.setCell _ _ _)).trans (KeepsOthers.setCell _ _ _), ⟨rfl, ⟨_, List.mem_append.2 (.inr (List.mem_singleton.2 rfl)), hx⟩, (r2.set 0 _).other 0 _ (by omega), (r3.other 0 _ (by omega)).set 0 _⟩, ((below_ext hB x).setCell (p := ⟨w.heap.size + 1 + 1, 0, none⟩) (by simp; omega) _).setCell (p := ⟨w.heap.size + 1 + 1 + 1, 0, none⟩) (by simp; omega) _⟩
  case done =>
    clear q0 q1 q2 q3 q4 q5 hBW
    rintro D W hD ⟨⟨hp, q0, q1, q2, q3, q4⟩, hB⟩ hK
    have c2 := q2.cell 0
    have c3 := q3.cell 0
    have c4 := q4.cell 0
    have f2 := q2.frozen 0
    have f3 := q3.frozen 0
    simp at c2 c3 c4
    gi_wp2
    have hK' := ((KeepsOthers.setCell W ⟨w.heap.size + 1 + 1, 0, none⟩ (.int .i64 (numL d0 d1 p0 p1 p2 [0, 1, 2]))).trans (KeepsOthers.setCell _ ⟨w.heap.size + 1 + 1 + 1, 0, none⟩ (.int .i64 0))).same D _ hK rfl
    refine ⟨by simp, .inl ⟨_, _, rfl, run_takeDeferred hK', ?_⟩⟩
    have k2 := (((q2.set 0 (.int .i64 (numL d0 d1 p0 p1 p2 [0, 1, 2]))).other (B' := w.heap.size + 1 + 1 + 1) 0 (.int .i64 0) (by omega)).putObj (.deferred none) hK' rfl).cell 0
    have k3 := (((q3.other (B' := w.heap.size + 1 + 1) 0 (.int .i64 (numL d0 d1 p0 p1 p2 [0, 1, 2])) (by omega)).set 0 (.int .i64 0)).putObj (.deferred none) hK' rfl).cell 0
    simp at k2 k3
    refine ⟨.tuple #[I (numL d0 d1 p0 p1 p2 [0, 1, 2]), I 0], ?_, .inl ⟨inD_of hp, by rw [numL_all hm]⟩, below_put _ ((hB.setCell (p := ⟨w.heap.size + 1 + 1, 0, none⟩) (by simp; omega) _).setCell (p := ⟨w.heap.size + 1 + 1 + 1, 0, none⟩) (by simp; omega) _) (by omega) hK'⟩
    simp [results, Tryz.f48, go_sem, k2, k3]
  case stop =>
    clear q0 q1 q2 q3 q4 q5 hBW
    rintro D c pre W hD hpre ⟨⟨rfl, ⟨k, hk, hno⟩, q2, q3⟩, hB⟩ hK
    gi_wp2
    refine ⟨by simp, .inl ⟨_, _, rfl, run_takeDeferred hK, ?_⟩⟩
    have k2 := (q2.putObj (.deferred none) hK rfl).cell 0
    have k3 := (q3.putObj (.deferred none) hK rfl).cell 0
    simp at k2 k3
    refine ⟨.tuple #[I 0, I 2], ?_, .inr ⟨fun h => hno (inK_of h k), rfl⟩, below_put _ hB (by omega) hK⟩
    simp [results, Tryz.f48, go_sem, k2, k3]

theorem at_yes {d0 d1 d2 p0 p1 p2 : Int} (w : World) (hm : mayD d0 d1 d2) (hp : inD d0 d1 d2 p0 p1 p2) :
    Calls Tryz.prog 48 #[A3 d0 d1 d2, A3 p0 p1 p2] w fun e W' => e = .returned (.tuple #[I (numD d0 d1 p0 p1 p2), I 0]) ∧ Below w.heap.size w W' := by
  refine (at_loop p0 p1 p2 w hm).mono ?_
  rintro e W' ⟨⟨_, rfl⟩ | ⟨hn, _⟩, hB⟩
  · exact ⟨rfl, hB⟩
  · exact absurd hp hn

theorem at_no {d0 d1 d2 p0 p1 p2 : Int} (w : World) (hm : mayD d0 d1 d2) (hp : ¬ inD d0 d1 d2 p0 p1 p2) :
    Calls Tryz.prog 48 #[A3 d0 d1 d2, A3 p0 p1 p2] w fun e W' => e = .returned (.tuple #[I 0, I 2]) ∧ Below w.heap.size w W' := by
  refine (at_loop p0 p1 p2 w hm).mono ?_
  rintro e W' ⟨⟨hy, _⟩ | ⟨_, rfl⟩, hB⟩
  · exact absurd hy hp
  · exact ⟨rfl, hB⟩

end Go.Proofs.YtlahfffgmfjpaaaGreatDoor

/-
  pos.Of: the coordinates of a midplane, for every input; nothing that lay before is turned.
-/
namespace Go.Proofs.YtlahfffgmfjpaaaGreatDoor
open Go.RowKit Go.Shelf

attribute [local go_sem] Oper.semAt_some ext_const

set_option maxRecDepth 100000 in
set_option maxHeartbeats 2000000 in
theorem of_yes {d0 d1 d2 m : Int} (w : World) (hm : mayD d0 d1 d2) (hn : 0 ≤ m ∧ m < d0 * d1 * d2) :
    Calls Tryz.prog 69 #[A3 d0 d1 d2, I m] w fun x W' => x = .returned (.tuple #[A3 (cx d0 m) (cy d0 d1 m) (cz d0 d1 m), I 0]) ∧ Below w.heap.size w W' := by
  refine (callsIn_wide (n := 3)).1 ?_
  refine callsIn_of_wp_marks Tryz.func69 rfl trivial ?_ rfl
  simp only [Tryz.ntmps69, List.size_toArray, List.length_cons, List.length_nil, Nat.reduceAdd, Nat.reduceSub, Array.replicate_succ, Array.replicate_zero, List.push_toArray, List.append_toArray, List.nil_append, List.cons_append]
  have HN : Hid (0 ≤ m ∧ m < d0 * d1 * d2) := hn
  have hmb : 0 ≤ m ∧ m ≤ 4096 := by have := N_bd hm; omega
  clear hn
  gi_wp2_with fail
  obtain ⟨W, hW, hs, hB0, b0, b1, b2, b3⟩ := at_start w #[I d0, I d1, I d2] #[I m] #[I 0, I 0, I 0] #[I 0, I 0, I 0] 23 3 22 22
  rw [hW]
  clear hW
  refine ⟨trivial, ?_⟩
  refine (callsIn_wide.2 (node_yes m _ hm (by have := HN.out; simp [belowB, this.1, this.2]))).mono ?_
  rintro e w1 ⟨rfl, hB⟩
  have hz : w.heap.size + 4 ≤ w1.heap.size := by have := hB.size; omega
  have g0 := b0.later hB
  have g1 := b1.later hB
  have g2 := b2.later hB
  have g3 := b3.later hB
  have hB1 : Below w.heap.size w w1 := hB0.trans (hB.mono (by omega))
  clear hB b0 b1 b2 b3 hB0 hs
  have c0 := g0.cell 0
  have c1 := g0.cell 1
  have c2 := g0.cell 2
  simp at c0 c1 c2
  gi_wp2_with (refine ⟨trivial, ?_⟩; gi_at_call 65; refine (callsIn_wide.2 (axes_calls _ _ _ _)).mono ?_; rintro e w' ⟨rfl, rfl⟩)
  obtain ⟨W, hW⟩ : ∃ W, w1.alloc (.cells #[I d0, I d1, I d2] 23) = W := ⟨_, rfl⟩
  have q0 : Blk W w.heap.size 23 #[I d0, I d1, I d2] := hW ▸ g0.alloc _
  have q1 : Blk W (w.heap.size + 1) 3 #[I m] := hW ▸ g1.alloc _
  have q2 : Blk W (w.heap.size + 1 + 1) 22 #[I 0, I 0, I 0] := hW ▸ g2.alloc _
  have q3 : Blk W (w.heap.size + 1 + 1 + 1) 22 #[I 0, I 0, I 0] := hW ▸ g3.alloc _
  have q5 : Blk W w1.heap.size 23 #[I d0, I d1, I d2] := hW ▸ Blk.new w1 23 #[I d0, I d1, I d2]
  have hBW : Below w.heap.size w W := hW ▸ hB1.alloc hB1.size _
  have hsW : W.heap.size = w1.heap.size + 1 := by rw [← hW]; simp
  rw [hW]
  clear hW g0 g1 g2 g3 c0 c1 c2 hB1
  refine wpIn_axes w1.heap.size d0 d1 d2 rfl q5 rfl
    (fun pre W => (Blk W w.heap.size 23 #[I d0, I d1, I d2] ∧ Blk W (w.heap.size + 1) 3 #[I m] ∧ Blk W (w.heap.size + 1 + 1) 22 #[I 0, I 0, I 0] ∧ Blk W (w.heap.size + 1 + 1 + 1) 22 #[I (crdL d0 d1 d2 m pre 0), I (crdL d0 d1 d2 m pre 1), I (crdL d0 d1 d2 m pre 2)]) ∧ Below w.heap.size w W)
    (fun _ _ _ => False)
    (OwnFrom.and (Own.from (own_and (blk_own _ _ _) (own_and (blk_own _ _ _) (own_and (blk_own _ _ _) (blk_own _ _ _)))) _) (ownFrom_below (Nat.le_refl _) (by omega)))
    (fun _ _ _ _ _ hs _ _ => hs)
    ⟨⟨q0, q1, q2, q3⟩, hBW⟩
    (fun x => { tmps := #[A3 d0 d1 d2, I m, .pointer (some ⟨w.heap.size, 0, none⟩), .pointer (some ⟨w.heap.size + 1, 0, none⟩), .pointer (some ⟨w.heap.size + 1 + 1, 0, none⟩), .int .i64 0, .pointer (some ⟨w.heap.size + 1 + 1 + 1, 0, none⟩), I 0, .int .i64 (axI x), .int .i64 (strd d0 d1 x), A3 d0 d1 d2, I m, I 0, I 0, .bool false, undef, undef, A3 d0 d1 d2, .func (.func 93) #[] #[.pointer (some ⟨w1.heap.size, 0, none⟩)], .int .i64 (axI x), .int .i64 (strd d0 d1 x), undef, undef, undef, undef, undef, undef, undef, undef, undef, undef], defers := [] }) ?assign ?body ?done ?stop
  case assign =>
    intro l x W K hK
    gi_wp2
    exact hK
  case body =>
    clear q0 q1 q2 q3 q5 hBW hsW
    rintro l pre x W ⟨⟨q0, q1, q2, q3⟩, hB⟩ hlen
    have hmx : Tryz.prog.follows .mixedOrders = true := by kernel_rfl
    have e0 := Ext.cell q0 0
    have e1 := Ext.cell q0 1
    have e2 := Ext.cell q0 2
    have e3 := Ext.cell q1 0
    simp at e0 e1 e2 e3
    have hdx := dimAt_ok hm x
    have hsx := (strd_ok hm).2.2.2 x
    have HC : Hid ((m / strd d0 d1 x).tmod (dimAt d0 d1 d2 x) = crd d0 d1 d2 m x) := by
      show _ = _
      rw [Int.tmod_eq_emod_of_nonneg (Int.ediv_nonneg hmb.1 (by omega))]; rfl
    unfold okD at hdx
    generalize strd d0 d1 x = st at *
    obtain ⟨hst0, hst1⟩ := hsx
    obtain ⟨hd0, hd1⟩ := hdx
    obtain ⟨hm0, hm1⟩ := hmb
    rcases fin3 x with rfl | rfl | rfl
    all_goals
      simp only [axI, dimAt] at hd0 hd1 HC ⊢
      gi_wp2
      refine wpIn_region_tail 9 (loose_round _ l) hmx (by kernel_rfl) ?_
      simp only [List.take_succ_cons, List.take_zero, List.drop_succ_cons, List.drop_zero]
      repeat (go_big_quiet_step (fail))
      refine wpQuiet_nil ?_
      intro x
      have r3 := q3.later x.le
      have c0 := r3.cell 0
      have c1 := r3.cell 1
      have c2 := r3.cell 2
      have f0 := r3.frozen 0
      have f1 := r3.frozen 1
      have f2 := r3.frozen 2
      simp at c0 c1 c2
      gi_wp2
      rw [HC.out]
      refine ⟨(keeps_below x.le).trans (KeepsOthers.setCell _ _ _), trivial, ⟨(q0.later x.le).other _ _ (by omega), (q1.later x.le).other _ _ (by omega), (q2.later x.le).other _ _ (by omega), ?_⟩, (below_ext hB x).setCell (p := ⟨w.heap.size + 1 + 1 + 1, _, none⟩) (by simp; omega) _⟩
      rw [crdL_same]
      rw [crdL_other _ _ _ _ _ (by decide), crdL_other _ _ _ _ _ (by decide)]
      first
        | exact r3.set 0 _
        | exact r3.set 1 _
        | exact r3.set 2 _
  case done =>
    clear q0 q1 q2 q3 q5 hBW
    rintro D W hD ⟨⟨q0, q1, q2, q3⟩, hB⟩ hK
    have c0 := q3.cell 0
    have c1 := q3.cell 1
    have c2 := q3.cell 2
    have k0 := q2.cell 0
    have k1 := q2.cell 1
    have k2 := q2.cell 2
    have f0 := q2.frozen 0
    have f1 := q2.frozen 1
    have f2 := q2.frozen 2
    simp at c0 c1 c2 k0 k1 k2
    have hcr := crd_all hm HN.out
    have E0 : crdL d0 d1 d2 m [0, 1, 2] 0 = cx d0 m := by rw [← hcr.1]; simp [crdL]
    have E1 : crdL d0 d1 d2 m [0, 1, 2] 1 = cy d0 d1 m := by rw [← hcr.2.1]; simp [crdL]
    have E2 : crdL d0 d1 d2 m [0, 1, 2] 2 = cz d0 d1 m := by rw [← hcr.2.2]; simp [crdL]
    rw [E0] at c0
    rw [E1] at c1
    rw [E2] at c2
    clear q3 E0 E1 E2 hcr
    gi_wp2
    have hK' := (((KeepsOthers.setCell W ⟨w.heap.size + 1 + 1, 0, none⟩ (.int .i64 (cx d0 m))).trans (KeepsOthers.setCell _ ⟨w.heap.size + 1 + 1, 1, none⟩ (.int .i64 (cy d0 d1 m)))).trans (KeepsOthers.setCell _ ⟨w.heap.size + 1 + 1, 2, none⟩ (.int .i64 (cz d0 d1 m)))).same D _ hK rfl
    refine ⟨by simp, .inl ⟨_, _, rfl, run_takeDeferred hK', ?_⟩⟩
    have fin := ((((q2.set 0 (.int .i64 (cx d0 m))).set 1 (.int .i64 (cy d0 d1 m))).set 2 (.int .i64 (cz d0 d1 m))).putObj (.deferred none) hK' rfl)
    have j0 := fin.cell 0
    have j1 := fin.cell 1
    have j2 := fin.cell 2
    simp at j0 j1 j2
    refine ⟨.tuple #[A3 (cx d0 m) (cy d0 d1 m) (cz d0 d1 m), I 0], ?_, rfl, below_put _ (((hB.setCell (p := ⟨w.heap.size + 1 + 1, 0, none⟩) (by simp; omega) _).setCell (p := ⟨w.heap.size + 1 + 1, 1, none⟩) (by simp; omega) _).setCell (p := ⟨w.heap.size + 1 + 1, 2, none⟩) (by simp; omega) _) (by omega) hK'⟩
    simp [results, Tryz.f69, go_sem, j0, j1, j2]
  case stop =>
    rintro D c pre W _ _ h _
    exact h.elim

end Go.Proofs.YtlahfffgmfjpaaaGreatDoor

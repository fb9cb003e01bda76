/-
  pos.Far: how far two midplanes are apart, for every input; nothing that lay before is turned.
-/
import Derived.Test.YtbbddolalglmnaaPosStep
namespace Go.Proofs.Ytbbddolalglmnaa
open Go.RowKit Go.Shelf

attribute [local go_sem] Oper.semAt_some ext_const

theorem least_calls (a b : Int) (w : World) :
    Calls Try.prog 40 #[I a, I b] w fun e w' => e = .returned (I (minI a b)) ∧ w' = w := by
  by_cases h : b < a
  · have E : Hid (minI a b = b) := by unfold minI; rw [if_pos h]; rfl
    go_enter Try.func40, Try.ntmps40
    go_wp2
    go_ret
    rw [E.out]
    exact ⟨rfl, rfl⟩
  · have E : Hid (minI a b = a) := by unfold minI; rw [if_neg h]; rfl
    go_enter Try.func40, Try.ntmps40
    go_wp2
    go_ret
    rw [E.out]
    exact ⟨rfl, rfl⟩

set_option maxHeartbeats 400000 in
theorem far_err {d0 d1 d2 : Int} (a b e : Int) (w : World) (he : (e != 0) = true)
    (hc : ∀ w, Calls Try.prog 35 #[A3 d0 d1 d2, I a] w fun x W' => x = .returned (.tuple #[A3 0 0 0, I e]) ∧ Below w.heap.size w W') :
    Calls Try.prog 22 #[A3 d0 d1 d2, I a, I b] w fun x W' => x = .returned (.tuple #[I 0, I e]) ∧ Below w.heap.size w W' := by
  have HH : Hid (∀ w, Calls Try.prog 35 #[A3 d0 d1 d2, I a] w fun x W' => x = .returned (.tuple #[A3 0 0 0, I e]) ∧ Below w.heap.size w W') := hc
  clear hc
  go_enter Try.func22, Try.ntmps22
  go_wp2_with fail
  refine (HH.out _).mono ?_
  rintro x w1 ⟨rfl, hB⟩
  go_wp2
  go_ret2
  exact ⟨rfl, (((Below.refl _ w).alloc (Nat.le_refl _) _).trans (hB.mono (by simp))).alloc (by have := hB.size; simp at this; omega) _⟩

theorem far_bad {d0 d1 d2 : Int} (a b : Int) (w : World) (hm : ¬ mayD d0 d1 d2) :
    Calls Try.prog 22 #[A3 d0 d1 d2, I a, I b] w fun x W' => x = .returned (.tuple #[I 0, I 8]) ∧ Below w.heap.size w W' :=
  far_err a b 8 w (by decide) (fun w => of_bad a w hm)
theorem far_no1 {d0 d1 d2 a : Int} (b : Int) (w : World) (hm : mayD d0 d1 d2) (ha : ¬ (0 ≤ a ∧ a < d0 * d1 * d2)) :
    Calls Try.prog 22 #[A3 d0 d1 d2, I a, I b] w fun x W' => x = .returned (.tuple #[I 0, I 2]) ∧ Below w.heap.size w W' :=
  far_err a b 2 w (by decide) (fun w => of_no w hm ha)

set_option maxHeartbeats 400000 in
theorem far_no2 {d0 d1 d2 a b : Int} (w : World) (hm : mayD d0 d1 d2) (ha : 0 ≤ a ∧ a < d0 * d1 * d2) (hb : ¬ (0 ≤ b ∧ b < d0 * d1 * d2)) :
    Calls Try.prog 22 #[A3 d0 d1 d2, I a, I b] w fun x W' => x = .returned (.tuple #[I 0, I 2]) ∧ Below w.heap.size w W' := by
  have HA : Hid (0 ≤ a ∧ a < d0 * d1 * d2) := ha
  have HB : Hid (¬ (0 ≤ b ∧ b < d0 * d1 * d2)) := hb
  clear ha hb
  go_enter Try.func22, Try.ntmps22
  go_wp2_with fail
  refine (of_yes _ hm HA.out).mono ?_
  rintro x w1 ⟨rfl, hB⟩
  have g0 := (Blk.new w 26 #[I d0, I d1, I d2]).later hB
  have c0 := g0.cell 0
  have c1 := g0.cell 1
  have c2 := g0.cell 2
  have hz := g0.lt
  simp at c0 c1 c2
  go_wp2_with fail
  refine (of_no _ hm HB.out).mono ?_
  rintro x w2 ⟨rfl, hB2⟩
  go_wp2
  go_ret2
  have s1 := hB.size
  have s2 := hB2.size
  simp at s1 s2
  exact ⟨rfl, (((((Below.refl _ w).alloc (Nat.le_refl _) _).trans (hB.mono (by simp))).alloc (by omega) _).trans (hB2.mono (by simp; omega))).alloc (by omega) _⟩

set_option maxRecDepth 100000 in
set_option maxHeartbeats 2000000 in
theorem far_yes {d0 d1 d2 a b : Int} (w : World) (hm : mayD d0 d1 d2) (ha : 0 ≤ a ∧ a < d0 * d1 * d2) (hb : 0 ≤ b ∧ b < d0 * d1 * d2) :
    Calls Try.prog 22 #[A3 d0 d1 d2, I a, I b] w fun x W' => x = .returned (.tuple #[I (farD d0 d1 d2 a b), I 0]) ∧ Below w.heap.size w W' := by
  refine (callsIn_wide (n := 3)).1 ?_
  refine callsIn_of_wp_marks Try.func22 rfl trivial ?_ rfl
  simp only [Try.ntmps22, List.size_toArray, List.length_cons, List.length_nil, Nat.reduceAdd, Nat.reduceSub, Array.replicate_succ, Array.replicate_zero, List.push_toArray, List.append_toArray, List.nil_append, List.cons_append]
  have HA : Hid (0 ≤ a ∧ a < d0 * d1 * d2) := ha
  have HB : Hid (0 ≤ b ∧ b < d0 * d1 * d2) := hb
  have ina := inD_of_node hm ha
  have inb := inD_of_node hm hb
  have HR : Hid (ringL d0 d1 d2 (cx d0 a) (cy d0 d1 a) (cz d0 d1 a) (cx d0 b) (cy d0 d1 b) (cz d0 d1 b) [0, 1, 2] = farD d0 d1 d2 a b) := ringL_all d0 d1 d2 a b
  clear ha hb
  gi_wp2_with fail
  refine ⟨trivial, ?_⟩
  refine (callsIn_wide.2 (of_yes _ hm HA.out)).mono ?_
  rintro x w1 ⟨rfl, hB⟩
  have g0 := (Blk.new w 26 #[I d0, I d1, I d2]).later hB
  have hB1 : Below w.heap.size w w1 := ((Below.refl _ w).alloc (Nat.le_refl _) _).trans (hB.mono (by simp))
  have c0 := g0.cell 0
  have c1 := g0.cell 1
  have c2 := g0.cell 2
  have hz := g0.lt
  simp at c0 c1 c2
  clear hB
  gi_wp2_with fail
  refine ⟨trivial, ?_⟩
  refine (callsIn_wide.2 (of_yes _ hm HB.out)).mono ?_
  rintro x w2 ⟨rfl, hB2⟩
  have h0 := (g0.alloc (.cells #[I (cx d0 a), I (cy d0 d1 a), I (cz d0 d1 a)] 25)).later hB2
  have h1 := (Blk.new w1 25 #[I (cx d0 a), I (cy d0 d1 a), I (cz d0 d1 a)]).later hB2
  have hB3 : Below w.heap.size w w2 := (hB1.alloc hB1.size _).trans (hB2.mono (by simp; omega))
  have hz1 := h1.lt
  have hz2 := h0.lt
  have c0 := h0.cell 0
  have c1 := h0.cell 1
  have c2 := h0.cell 2
  simp at c0 c1 c2
  clear hB2 g0 hB1
  gi_wp2_with (refine ⟨trivial, ?_⟩; gi_at_call 39; refine (callsIn_wide.2 (axes_calls _ _ _ _)).mono ?_; rintro e w' ⟨rfl, rfl⟩)
  have ia := ina
  have ib := inb
  unfold inD at ia ib
  generalize cx d0 a = p0 at *
  generalize cy d0 d1 a = p1 at *
  generalize cz d0 d1 a = p2 at *
  generalize cx d0 b = q0 at *
  generalize cy d0 d1 b = q1 at *
  generalize cz d0 d1 b = q2 at *
  obtain ⟨W, hW⟩ : ∃ W, ((w2.alloc (.cells #[I q0, I q1, I q2] 25)).alloc (.cells #[I 0] 3)).alloc (.cells #[I d0, I d1, I d2] 26) = W := ⟨_, rfl⟩
  have b0 : Blk W w.heap.size 26 #[I d0, I d1, I d2] := hW ▸ ((h0.alloc _).alloc _).alloc _
  have b1 : Blk W w1.heap.size 25 #[I p0, I p1, I p2] := hW ▸ ((h1.alloc _).alloc _).alloc _
  have b2 : Blk W w2.heap.size 25 #[I q0, I q1, I q2] := hW ▸ ((Blk.new w2 25 #[I q0, I q1, I q2]).alloc _).alloc _
  have b3 : Blk W (w2.heap.size + 1) 3 #[I 0] := by
    have := (Blk.new (w2.alloc (.cells #[I q0, I q1, I q2] 25)) 3 #[I 0]).alloc (.cells #[I d0, I d1, I d2] 26)
    rw [World.size_alloc] at this; exact hW ▸ this
  have b4 : Blk W (w2.heap.size + 1 + 1) 26 #[I d0, I d1, I d2] := by
    have := Blk.new ((w2.alloc (.cells #[I q0, I q1, I q2] 25)).alloc (.cells #[I 0] 3)) 26 #[I d0, I d1, I d2]
    simp only [World.size_alloc] at this; exact hW ▸ this
  have hBW : Below w.heap.size w W := hW ▸ ((hB3.alloc hB3.size _).alloc (by simp; omega) _).alloc (by simp; omega) _
  have hsW : W.heap.size = w2.heap.size + 3 := by rw [← hW]; simp
  rw [hW]
  clear hW c0 c1 c2 h0 h1 hB3
  refine wpIn_axes (w2.heap.size + 1 + 1) d0 d1 d2 rfl b4 rfl
    (fun pre W => (Blk W w.heap.size 26 #[I d0, I d1, I d2] ∧ Blk W w1.heap.size 25 #[I p0, I p1, I p2] ∧ Blk W w2.heap.size 25 #[I q0, I q1, I q2] ∧ Blk W (w2.heap.size + 1) 3 #[I (ringL d0 d1 d2 p0 p1 p2 q0 q1 q2 pre)]) ∧ Below w.heap.size w W)
    (fun _ _ _ => False)
    (OwnFrom.and (Own.from (own_and (blk_own _ _ _) (own_and (blk_own _ _ _) (own_and (blk_own _ _ _) (blk_own _ _ _)))) _) (ownFrom_below (Nat.le_refl _) (by omega)))
    (fun _ _ _ _ _ hs _ _ => hs)
    ⟨⟨b0, b1, b2, b3⟩, hBW⟩
    (fun x => { tmps := #[A3 d0 d1 d2, I a, I b, .pointer (some ⟨w.heap.size, 0, none⟩), undef, undef, .int .i64 0, .int .i64 0, .pointer (some ⟨w1.heap.size, 0, none⟩), I 0, .pointer (some ⟨w2.heap.size, 0, none⟩), .pointer (some ⟨w2.heap.size + 1, 0, none⟩), .int .i64 (axI x), undef, .tuple #[A3 p0 p1 p2, I 0], A3 d0 d1 d2, I a, .tuple #[A3 p0 p1 p2, I 0], A3 p0 p1 p2, I 0, I 0, .bool false, undef, .tuple #[A3 q0 q1 q2, I 0], A3 d0 d1 d2, I b, .tuple #[A3 q0 q1 q2, I 0], A3 q0 q1 q2, I 0, I 0, .bool false, undef, A3 d0 d1 d2, .func (.func 50) #[] #[.pointer (some ⟨w2.heap.size + 1 + 1, 0, none⟩)], .int .i64 (axI x), .int .i64 (strd d0 d1 x), undef, undef, undef, undef, undef, undef, undef, undef, undef, undef, undef, undef, undef, undef, undef, undef, undef, undef, undef, undef, undef], defers := [] }) ?assign ?body ?done ?stop
  case assign =>
    intro l x W K hK
    gi_wp2
    exact hK
  case body =>
    clear b0 b1 b2 b3 b4 hBW hsW
    rintro l pre x W ⟨⟨b0, b1, b2, b3⟩, hB⟩ hlen
    have hmx : Try.prog.follows .mixedOrders = true := by kernel_rfl
    have hrb := ringL_bd (p0 := p0) (p1 := p1) (p2 := p2) (q0 := q0) (q1 := q1) (q2 := q2) hm pre 0 (Int.le_refl _)
    have hrb1 : 0 ≤ ringL d0 d1 d2 p0 p1 p2 q0 q1 q2 pre := hrb.1
    have hrb2 : ringL d0 d1 d2 p0 p1 p2 q0 q1 q2 pre ≤ 48 := Int.le_trans hrb.2 (by omega)
    have HS : Hid (wrap64 (ringL d0 d1 d2 p0 p1 p2 q0 q1 q2 pre + ringK d0 d1 d2 p0 p1 p2 q0 q1 q2 x) = ringL d0 d1 d2 p0 p1 p2 q0 q1 q2 (pre ++ [x])) := ringL_snoc hm pre x hlen
    have hdx := dimAt_ok hm x
    unfold okD at hdx
    have ipx := inK_of ina x
    have iqx := inK_of inb x
    unfold inK at ipx iqx
    have hon0 := Int.emod_nonneg (dimAt q0 q1 q2 x - dimAt p0 p1 p2 x) (b := dimAt d0 d1 d2 x) (by omega)
    have hon1 := Int.emod_lt_of_pos (dimAt q0 q1 q2 x - dimAt p0 p1 p2 x) (b := dimAt d0 d1 d2 x) (by omega)
    have hrk := ring_bd (p := dimAt p0 p1 p2 x) (q := dimAt q0 q1 q2 x) hdx.1 hdx.2
    unfold ring at hrk
    unfold ringK ring at HS
    clear hrb ia ib
    obtain ⟨hd1, hd2⟩ := hdx
    obtain ⟨hp1, hp2⟩ := ipx
    obtain ⟨hq1, hq2⟩ := iqx
    obtain ⟨hr1, hr2⟩ := hrk
    generalize ringL d0 d1 d2 p0 p1 p2 q0 q1 q2 pre = acc at *
    have e0 := Ext.cell b0 0
    have e1 := Ext.cell b0 1
    have e2 := Ext.cell b0 2
    have e3 := Ext.cell b1 0
    have e4 := Ext.cell b1 1
    have e5 := Ext.cell b1 2
    have e6 := Ext.cell b2 0
    have e7 := Ext.cell b2 1
    have e8 := Ext.cell b2 2
    simp at e0 e1 e2 e3 e4 e5 e6 e7 e8
    rcases fin3 x with rfl | rfl | rfl
    all_goals
      simp only [axI, dimAt] at hd1 hd2 hp1 hp2 hq1 hq2 hon0 hon1 hr1 hr2 HS ⊢
      gi_wp2
      refine wpIn_region_look (loose_round _ l) hmx (by kernel_rfl) ?_
      repeat (go_big_quiet_step (exact calls_ext_same (around_calls _ (by omega) (by omega) (by omega) (by omega))))
      refine wpQuiet_nil ?_
      intro x
      gi_wp2
      have r0 := b0.later x.le
      have r3 := b3.later x.le
      have e0 := Ext.cell r0 0
      have e1 := Ext.cell r0 1
      have e2 := Ext.cell r0 2
      have e3 := Ext.cell r3 0
      simp at e0 e1 e2 e3
      refine wpIn_region_tail 9 (loose_round _ l) hmx (by kernel_rfl) ?_
      simp only [List.take_succ_cons, List.take_zero, List.drop_succ_cons, List.drop_zero]
      repeat (go_big_quiet_step (exact calls_ext_same (least_calls _ _ _)))
      refine wpQuiet_nil ?_
      intro y
      have g3 := Ext.frozen r3 0 y
      have e3 := e3 y
      gi_wp2
      refine ⟨((keeps_below x.le).trans (keeps_below y.le)).trans (KeepsOthers.setCell _ _ _), trivial, ⟨((b0.later x.le).later y.le).other 0 _ (by omega), ((b1.later x.le).later y.le).other 0 _ (by omega), ((b2.later x.le).later y.le).other 0 _ (by omega), ?_⟩, (below_ext (below_ext hB x) y).setCell (p := ⟨w2.heap.size + 1, 0, none⟩) (by simp; omega) _⟩
      rw [← HS.out, wrap_in _ (by omega)]
      exact (r3.later y.le).set 0 _
  case done =>
    clear b0 b1 b2 b3 b4 hBW
    rintro D W hD ⟨⟨b0, b1, b2, b3⟩, hB⟩ hK
    have c3 := b3.cell 0
    simp at c3
    rw [HR.out] at c3
    gi_wp2
    refine ⟨by simp, .inl ⟨_, _, rfl, run_takeDeferred hK, ?_⟩⟩
    refine ⟨.tuple #[I (farD d0 d1 d2 a b), I 0], ?_, rfl, below_put _ hB (by omega) hK⟩
    simp [results, Try.f22, go_sem]
  case stop =>
    rintro D c pre W _ _ h _
    exact h.elim

end Go.Proofs.Ytbbddolalglmnaa

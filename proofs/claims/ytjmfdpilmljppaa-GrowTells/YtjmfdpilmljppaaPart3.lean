/-
  pos.Check, pos.many, pos.Many, pos.checkNode: what each call answers, for every input; nothing that lay before is turned.
-/
import Derived.Test.YtjmfdpilmljppaaPart2
import Derived.Test.YtjmfdpilmljppaaPart1
namespace Go.Proofs.Ytjmfdpilmljppaa
open Go.RowKit Go.Shelf

attribute [local go_sem] Oper.semAt_some ext_const

set_option maxRecDepth 100000 in
set_option maxHeartbeats 2000000 in
theorem check_in (F : Fence) (n : Nat) (hC : F.fn 71) (hA : F.fn 75) (hF : F.fn 89) (hro : F.round = none) (hn : 3 ≤ n) (d0 d1 d2 : Int) (w : World) :
    CallsIn F n Try.prog 71 #[A3 d0 d1 d2] w fun e W' => ((mayD d0 d1 d2 ∧ e = .returned (I 0)) ∨ (¬ mayD d0 d1 d2 ∧ e = .returned (I 8))) ∧ Below w.heap.size w W' := by
  have h1 : 1 ≤ n := by omega
  refine callsIn_of_wp_marks Try.func71 rfl hC ?_ hro
  simp only [Try.ntmps71, List.size_toArray, List.length_cons, List.length_nil, Nat.reduceAdd, Nat.reduceSub, Array.replicate_succ, Array.replicate_zero, List.push_toArray, List.append_toArray, List.nil_append, List.cons_append]
  gi_wp2_with (gi_at_call 75; refine (axes_in F (n - 1) hA hro _ _ _ _).mono ?_; rintro e w' ⟨rfl, rfl⟩)
  have b0 := ((Blk.new w 26 #[I d0, I d1, I d2]).alloc (.cells #[I 0] 22)).alloc (.cells #[I d0, I d1, I d2] 26)
  have b1 := (Blk.new (w.alloc (.cells #[I d0, I d1, I d2] 26)) 22 #[I 0]).alloc (.cells #[I d0, I d1, I d2] 26)
  have b2 := Blk.new ((w.alloc (.cells #[I d0, I d1, I d2] 26)).alloc (.cells #[I 0] 22)) 26 #[I d0, I d1, I d2]
  simp only [World.size_alloc] at b1 b2
  have hB0 : Below w.heap.size w (((w.alloc (.cells #[I d0, I d1, I d2] 26)).alloc (.cells #[I 0] 22)).alloc (.cells #[I d0, I d1, I d2] 26)) := (((Below.refl _ w).alloc (Nat.le_refl _) _).alloc (by simp) _).alloc (by simp; omega) _
  refine wpIn_rangeFunc_ownF hro h1 (gf := 89) (lb := #[.pointer (some ⟨w.heap.size + 1 + 1, 0, none⟩)]) rfl hF (enters_of Try.func89 (by kernel_rfl) rfl)
    (axes_stops F (n - 1) hF hro (by omega) (w.heap.size + 1 + 1) d0 d1 d2 _ b2.lt (b2.cell 0) (b2.cell 1) (b2.cell 2)) (fun _ _ => trivial) (fun _ _ _ _ _ _ _ _ => trivial) (Below.refl _ _) (fun _ => rfl)
    (fun pre W => (((∀ k ∈ pre, okD (dimAt d0 d1 d2 k)) ∧ Blk W w.heap.size 26 #[I d0, I d1, I d2]) ∧ Blk W (w.heap.size + 1) 22 #[I 0]) ∧ Below w.heap.size w W)
    (fun c pre W => ((c = .ret ∧ (∃ k ∈ pre, ¬ okD (dimAt d0 d1 d2 k))) ∧ Blk W (w.heap.size + 1) 22 #[I 8]) ∧ Below w.heap.size w W)
    (OwnFrom.and (Own.from (own_and (own_and (own_pure _) (blk_own _ _ _)) (blk_own _ _ _)) _) (ownFrom_below (Nat.le_refl _) (by simp; omega)))
    (fun c => OwnFrom.and (Own.from (own_and (own_pure _) (blk_own _ _ _)) _) (ownFrom_below (Nat.le_refl _) (by simp; omega)))
    ⟨⟨⟨by simp, b0⟩, b1⟩, hB0⟩
    (fun x => { tmps := #[A3 d0 d1 d2, .pointer (some ⟨w.heap.size, 0, none⟩), .pointer (some ⟨w.heap.size + 1, 0, none⟩), .int .i64 (axI x), A3 d0 d1 d2, .func (.func 89) #[] #[.pointer (some ⟨w.heap.size + 1 + 1, 0, none⟩)], .int .i64 (axI x), .int .i64 (strd d0 d1 x), undef, undef, undef, undef, undef, undef, undef, undef, undef, undef], defers := [] }) ?assign ?body ?done ?stop
  case assign =>
    intro l x W K hK
    gi_wp2
    exact hK
  case body =>
    rintro l pre x W ⟨⟨⟨hp, hb0⟩, hb1⟩, hB⟩ _
    have c0 := hb0.cell 0
    have c1 := hb0.cell 1
    have c2 := hb0.cell 2
    have c3 := hb1.cell 0
    have f3 := hb1.frozen 0
    have fin : ∀ x : Fin 3, okD (dimAt d0 d1 d2 x) → ∀ k ∈ pre ++ [x], okD (dimAt d0 d1 d2 k) := fun x hx k hk => by
      rcases List.mem_append.1 hk with h | h
      · exact hp k h
      · simp at h; subst h; exact hx
    simp at c0 c1 c2 c3
    rcases fin3 x with rfl | rfl | rfl
    all_goals
      simp only [axI]
      gi_wp2
    all_goals first
      | exact ⟨KeepsOthers.refl _, trivial, ⟨⟨fin _ (by simp only [dimAt, okD]; omega), hb0⟩, hb1⟩, hB⟩
      | exact ⟨KeepsOthers.setCell _ _ _, ⟨⟨rfl, _, List.mem_append.2 (.inr (List.mem_singleton.2 rfl)), by simp only [dimAt, okD]; omega⟩, hb1.set 0 _⟩, hB.setCell (p := ⟨w.heap.size + 1, 0, none⟩) (by simp) _⟩
  case done =>
    rintro D xs W hD rfl ⟨⟨⟨hp, hb0⟩, hb1⟩, hB⟩ hK
    have c3 := hb1.cell 0
    have f3 := hb1.frozen 0
    simp at c3
    gi_wp2
    have hK' := (KeepsOthers.setCell W ⟨w.heap.size + 1, 0, none⟩ (.int .i64 0)).same D _ hK rfl
    refine ⟨by simp, .inl ⟨_, _, rfl, run_takeDeferred hK', ?_⟩⟩
    have hc5 := ((hb1.set 0 (.int .i64 0)).putObj (.deferred none) hK' rfl).cell 0
    have ho0 := hp 0 (by simp)
    have ho1 := hp 1 (by simp)
    have ho2 := hp 2 (by simp)
    simp only [dimAt, okD] at ho0 ho1 ho2
    refine ⟨.int .i64 0, ?_, .inl ⟨⟨ho0, ho1, ho2⟩, rfl⟩, below_put _ (hB.setCell (p := ⟨w.heap.size + 1, 0, none⟩) (by simp) _) (by simp at hD; omega) hK'⟩
    simp [results, Try.f71, go_sem, hc5]
  case stop =>
    rintro D c pre W hD hpre ⟨⟨⟨rfl, k, hk, hno⟩, hb1⟩, hB⟩ hK
    have c3 := hb1.cell 0
    simp at c3
    gi_wp2
    refine ⟨by simp, .inl ⟨_, _, rfl, run_takeDeferred hK, ?_⟩⟩
    have hc5 := (hb1.putObj (.deferred none) hK rfl).cell 0
    refine ⟨.int .i64 8, ?_, .inr ⟨fun hm => hno ?_, rfl⟩, below_put _ hB (by simp at hD; omega) hK⟩
    · simp [results, Try.f71, go_sem, hc5]
    · obtain ⟨m0, m1, m2⟩ := hm
      rcases fin3 k with rfl | rfl | rfl <;> simp only [dimAt, okD] <;> assumption

theorem check_yes {d0 d1 d2 : Int} (w : World) (h : mayD d0 d1 d2) : Calls Try.prog 71 #[A3 d0 d1 d2] w fun e W' => e = .returned (I 0) ∧ Below w.heap.size w W' := by
  refine ((callsIn_wide (n := 3)).1 (check_in Fence.wide 3 trivial trivial trivial rfl (by omega) d0 d1 d2 w)).mono ?_
  rintro e W' ⟨⟨_, rfl⟩ | ⟨hn, _⟩, hB⟩
  · exact ⟨rfl, hB⟩
  · exact absurd h hn

theorem check_no {d0 d1 d2 : Int} (w : World) (h : ¬ mayD d0 d1 d2) : Calls Try.prog 71 #[A3 d0 d1 d2] w fun e W' => e = .returned (I 8) ∧ Below w.heap.size w W' := by
  refine ((callsIn_wide (n := 3)).1 (check_in Fence.wide 3 trivial trivial trivial rfl (by omega) d0 d1 d2 w)).mono ?_
  rintro e W' ⟨⟨hy, _⟩ | ⟨_, rfl⟩, hB⟩
  · exact absurd hy h
  · exact ⟨rfl, hB⟩

theorem axes_calls (d0 d1 d2 : Int) (w : World) :
    Calls Try.prog 75 #[A3 d0 d1 d2] w fun e w' => e = .returned (.func (.func 89) #[] #[.pointer (some ⟨w.heap.size, 0, none⟩)]) ∧ w' = w.alloc (.cells #[I d0, I d1, I d2] 26) :=
  (callsIn_wide (n := 3)).1 (axes_in Fence.wide 3 trivial rfl d0 d1 d2 w)

theorem below_calls (k n : Int) (w : World) :
    Calls Try.prog 76 #[I k, I n] w fun e w' => e = .returned (.bool (belowB k n)) ∧ w' = w := by
  go_enter Try.func76, Try.ntmps76
  go_wp2
  all_goals
    go_ret
    first
      | exact ⟨rfl, rfl⟩
      | (refine ⟨?_, rfl⟩; simp [belowB]; omega)

set_option maxRecDepth 100000 in
set_option maxHeartbeats 2000000 in
theorem many_calls {d0 d1 d2 : Int} (w : World) (hm : mayD d0 d1 d2) :
    Calls Try.prog 79 #[A3 d0 d1 d2] w fun e W' => e = .returned (I (d0 * d1 * d2)) ∧ Below w.heap.size w W' := by
  refine (callsIn_wide (n := 3)).1 ?_
  have h1 : 1 ≤ 3 := by omega
  refine callsIn_of_wp_marks Try.func79 rfl trivial ?_ rfl
  simp only [Try.ntmps79, List.size_toArray, List.length_cons, List.length_nil, Nat.reduceAdd, Nat.reduceSub, Array.replicate_succ, Array.replicate_zero, List.push_toArray, List.append_toArray, List.nil_append, List.cons_append]
  gi_wp2_with (refine ⟨trivial, ?_⟩; gi_at_call 75; refine (callsIn_wide.2 (axes_calls _ _ _ _)).mono ?_; rintro e w' ⟨rfl, rfl⟩)
  have b0 := ((Blk.new w 26 #[I d0, I d1, I d2]).alloc (.cells #[I 1] 3)).alloc (.cells #[I d0, I d1, I d2] 26)
  have b1 := (Blk.new (w.alloc (.cells #[I d0, I d1, I d2] 26)) 3 #[I 1]).alloc (.cells #[I d0, I d1, I d2] 26)
  have b2 := Blk.new ((w.alloc (.cells #[I d0, I d1, I d2] 26)).alloc (.cells #[I 1] 3)) 26 #[I d0, I d1, I d2]
  simp only [World.size_alloc] at b1 b2
  have hB0 : Below w.heap.size w (((w.alloc (.cells #[I d0, I d1, I d2] 26)).alloc (.cells #[I 1] 3)).alloc (.cells #[I d0, I d1, I d2] 26)) := (((Below.refl _ w).alloc (Nat.le_refl _) _).alloc (by simp) _).alloc (by simp; omega) _
  refine wpIn_axes (w.heap.size + 1 + 1) d0 d1 d2 rfl b2 rfl
    (fun pre W => (Blk W w.heap.size 26 #[I d0, I d1, I d2] ∧ Blk W (w.heap.size + 1) 3 #[I (prodL d0 d1 d2 pre)]) ∧ Below w.heap.size w W)
    (fun _ _ _ => False)
    (OwnFrom.and (Own.from (own_and (blk_own _ _ _) (blk_own _ _ _)) _) (ownFrom_below (Nat.le_refl _) (by simp; omega)))
    (fun _ _ _ _ _ hs _ _ => hs)
    ⟨⟨b0, b1⟩, hB0⟩
    (fun x => { tmps := #[A3 d0 d1 d2, .pointer (some ⟨w.heap.size, 0, none⟩), .int .i64 0, .pointer (some ⟨w.heap.size + 1, 0, none⟩), .int .i64 (axI x), A3 d0 d1 d2, .func (.func 89) #[] #[.pointer (some ⟨w.heap.size + 1 + 1, 0, none⟩)], .int .i64 (axI x), .int .i64 (strd d0 d1 x), undef, undef, undef, undef, undef, undef], defers := [] }) ?assign ?body ?done ?stop
  case assign =>
    intro l x W K hK
    gi_wp2
    exact hK
  case body =>
    rintro l pre x W ⟨⟨hb0, hb1⟩, hB⟩ hlen
    have c0 := hb0.cell 0
    have c1 := hb0.cell 1
    have c2 := hb0.cell 2
    have c3 := hb1.cell 0
    have f3 := hb1.frozen 0
    simp at c0 c1 c2 c3
    have hw := Hid.out (prodL_snoc hm pre x hlen)
    have HW : Hid (wrap64 (prodL d0 d1 d2 pre * dimAt d0 d1 d2 x) = prodL d0 d1 d2 (pre ++ [x])) := hw
    clear hw
    have hmx : Try.prog.follows .mixedOrders = true := by kernel_rfl
    have e0 := Ext.cell hb0 0
    have e1 := Ext.cell hb0 1
    have e2 := Ext.cell hb0 2
    have e3 := Ext.cell hb1 0
    simp at e0 e1 e2 e3
    rcases fin3 x with rfl | rfl | rfl
    all_goals
      simp only [axI]
      gi_wp2
      refine wpIn_region_tail 5 (loose_round _ l) hmx (by kernel_rfl) ?_
      simp only [List.take_succ_cons, List.take_zero, List.drop_succ_cons, List.drop_zero]
      repeat (go_big_quiet_step (fail))
      refine wpQuiet_nil ?_
      intro x
      have g3 := Ext.frozen hb1 0 x
      gi_wp2
      refine ⟨(keeps_below x.le).trans (KeepsOthers.setCell _ _ _), trivial, ⟨(hb0.later x.le).other 0 _ (by omega), ?_⟩, (below_ext hB x).setCell (p := ⟨w.heap.size + 1, 0, none⟩) (by simp) _⟩
      rw [← HW.out]
      exact (hb1.later x.le).set 0 _
  case done =>
    rintro D W hD ⟨⟨hb0, hb1⟩, hB⟩ hK
    have c3 := hb1.cell 0
    simp at c3
    gi_wp2
    refine ⟨by simp, .inl ⟨_, _, rfl, run_takeDeferred hK, ?_⟩⟩
    exact ⟨_, results_tmp rfl _ _ _, by simp [prodL, dimAt], below_put _ hB (by simp at hD; omega) hK⟩
  case stop =>
    rintro D c pre W _ _ h _
    exact h.elim

end Go.Proofs.Ytjmfdpilmljppaa

/-
  pos.Many, pos.checkNode: what each call answers, for every input; nothing that lay before is turned.
-/
namespace Go.Proofs.Ytjmfdpilmljppaa
open Go.RowKit Go.Shelf

attribute [local go_sem] Oper.semAt_some ext_const

set_option maxHeartbeats 400000 in
theorem many_no {d0 d1 d2 : Int} (w : World) (hm : ¬ mayD d0 d1 d2) :
    Calls Try.prog 54 #[A3 d0 d1 d2] w fun e W' => e = .returned (.tuple #[I 0, I 8]) ∧ Below w.heap.size w W' := by
  go_enter Try.func54, Try.ntmps54
  go_wp2_with fail
  refine (check_no _ hm).mono ?_
  rintro e w1 ⟨rfl, hB⟩
  go_wp2
  go_ret2
  exact ⟨rfl, ((Below.refl _ w).alloc (Nat.le_refl _) _).trans (hB.mono (by simp))⟩

set_option maxHeartbeats 400000 in
theorem many_yes {d0 d1 d2 : Int} (w : World) (hm : mayD d0 d1 d2) :
    Calls Try.prog 54 #[A3 d0 d1 d2] w fun e W' => e = .returned (.tuple #[I (d0 * d1 * d2), I 0]) ∧ Below w.heap.size w W' := by
  go_enter Try.func54, Try.ntmps54
  go_wp2_with fail
  refine (check_yes _ hm).mono ?_
  rintro e w1 ⟨rfl, hB⟩
  have b0 := (Blk.new w 26 #[I d0, I d1, I d2]).later hB
  have c0 := b0.cell 0
  have c1 := b0.cell 1
  have c2 := b0.cell 2
  simp at c0 c1 c2
  go_wp2_with fail
  refine (many_calls _ hm).mono ?_
  rintro e w2 ⟨rfl, hB2⟩
  go_wp2
  go_ret2
  exact ⟨rfl, (((Below.refl _ w).alloc (Nat.le_refl _) _).trans (hB.mono (by simp))).trans (hB2.mono (by have := hB.size; simp at this; omega))⟩

set_option maxHeartbeats 400000 in
theorem node_bad {d0 d1 d2 : Int} (m : Int) (w : World) (hm : ¬ mayD d0 d1 d2) :
    Calls Try.prog 85 #[A3 d0 d1 d2, I m] w fun e W' => e = .returned (I 8) ∧ Below w.heap.size w W' := by
  go_enter Try.func85, Try.ntmps85
  go_wp2_with fail
  refine (many_no _ hm).mono ?_
  rintro e w1 ⟨rfl, hB⟩
  go_wp2
  go_ret
  exact ⟨rfl, ((Below.refl _ w).alloc (Nat.le_refl _) _).trans (hB.mono (by simp))⟩

set_option maxHeartbeats 400000 in
theorem node_no {d0 d1 d2 : Int} (m : Int) (w : World) (hm : mayD d0 d1 d2) (hn : belowB m (d0 * d1 * d2) = false) :
    Calls Try.prog 85 #[A3 d0 d1 d2, I m] w fun e W' => e = .returned (I 2) ∧ Below w.heap.size w W' := by
  go_enter Try.func85, Try.ntmps85
  go_wp2_with fail
  refine (many_yes _ hm).mono ?_
  rintro e w1 ⟨rfl, hB⟩
  go_wp2_with fail
  refine (below_calls _ _ _).mono ?_
  rintro e w2 ⟨rfl, rfl⟩
  go_wp2
  go_ret
  exact ⟨rfl, ((Below.refl _ w).alloc (Nat.le_refl _) _).trans (hB.mono (by simp))⟩

set_option maxHeartbeats 400000 in
theorem node_yes {d0 d1 d2 : Int} (m : Int) (w : World) (hm : mayD d0 d1 d2) (hn : belowB m (d0 * d1 * d2) = true) :
    Calls Try.prog 85 #[A3 d0 d1 d2, I m] w fun e W' => e = .returned (I 0) ∧ Below w.heap.size w W' := by
  go_enter Try.func85, Try.ntmps85
  go_wp2_with fail
  refine (many_yes _ hm).mono ?_
  rintro e w1 ⟨rfl, hB⟩
  go_wp2_with fail
  refine (below_calls _ _ _).mono ?_
  rintro e w2 ⟨rfl, rfl⟩
  go_wp2
  go_ret
  exact ⟨rfl, ((Below.refl _ w).alloc (Nat.le_refl _) _).trans (hB.mono (by simp))⟩

end Go.Proofs.Ytjmfdpilmljppaa

/-
  box's sides: sideOf, mayBe, after, has, meets, within: what each call answers; nothing that lay before is turned.
-/
namespace Go.Proofs.Ytjmfdpilmljppaa
open Go.RowKit Go.Shelf

attribute [local go_sem] Oper.semAt_some ext_const

/-- What a later world has in a box's block. -/
theorem Blk.six {W W' : World} {B : Nat} {t : TypeId} {a b c d e f : Int} (h : Blk W B t #[I a, I b, I c, I d, I e, I f]) (hb : Below W.heap.size W W') :
    (W'.cell? ⟨B, 0, none⟩ = some (I a) ∧ W'.cell? ⟨B, 1, none⟩ = some (I b) ∧ W'.cell? ⟨B, 2, none⟩ = some (I c)) ∧ (W'.cell? ⟨B, 3, none⟩ = some (I d) ∧ W'.cell? ⟨B, 4, none⟩ = some (I e) ∧ W'.cell? ⟨B, 5, none⟩ = some (I f)) ∧ B < W'.heap.size :=
  ⟨⟨(h.later hb).cell 0, (h.later hb).cell 1, (h.later hb).cell 2⟩, ⟨(h.later hb).cell 3, (h.later hb).cell 4, (h.later hb).cell 5⟩, (h.later hb).lt⟩

theorem after_calls {r b k : Int} (s : Int) (w : World) (hr : r ≤ 16) (hb : 0 ≤ b ∧ b < r) (hk : 0 ≤ k ∧ k < r) :
    Calls Try.prog 88 #[A3 r b s, I k] w fun e W' => e = .returned (I (aft r b k)) ∧ Below w.heap.size w W' := by
  have HR : Hid ((k - b + r) % r = aft r b k) := aft_rem hb hk
  obtain ⟨b0, b1⟩ := hb
  obtain ⟨k0, k1⟩ := hk
  go_enter Try.func88, Try.ntmps88
  go_wp2
  go_ret
  rw [HR.out]
  exact ⟨rfl, (Below.refl _ w).alloc (Nat.le_refl _) _⟩

theorem has_calls {r b k : Int} (s : Int) (w : World) (hr : r ≤ 16) (hb : 0 ≤ b ∧ b < r) (hk : 0 ≤ k ∧ k < r) :
    Calls Try.prog 74 #[A3 r b s, I k] w fun e W' => e = .returned (.bool (hasS r b s k)) ∧ Below w.heap.size w W' := by
  have hmx : Try.prog.follows .mixedOrders = true := by kernel_rfl
  go_enter Try.func74, Try.ntmps74
  go_wp2
  have b0 := Blk.new w 84 #[I r, I b, I s]
  have x0 := Ext.cell b0 0
  have x1 := Ext.cell b0 1
  have x2 := Ext.cell b0 2
  simp at x0 x1 x2
  have hT : Below w.heap.size w (w.alloc (.cells #[I r, I b, I s] 84)) := (Below.refl _ w).alloc (Nat.le_refl _) _
  refine wp_region_look hmx (by kernel_rfl) ?_
  repeat (go_big_quiet_step ((go_at_call 88; exact calls_ext (after_calls s _ hr hb hk))))
  refine wpQuiet_nil ?_
  intro v
  go_wp2
  go_ret
  exact ⟨rfl, then_below hT v.le⟩

theorem maybe_calls (r b s : Int) (w : World) :
    Calls Try.prog 73 #[A3 r b s] w fun e W' => e = .returned (.bool (maySB r b s)) ∧ Below w.heap.size w W' := by
  go_enter Try.func73, Try.ntmps73
  go_wp2
  all_goals
    go_ret
    refine ⟨?_, (Below.refl _ w).alloc (Nat.le_refl _) _⟩
    simp [maySB, *]
    try omega

theorem within_calls {r b s b' s' : Int} (w : World) (hr : r ≤ 16) (h : mayS r b s) (h' : mayS r b' s') :
    Calls Try.prog 70 #[A3 r b s, A3 r b' s'] w fun e W' => e = .returned (.bool (inS r b s b' s')) ∧ Below w.heap.size w W' := by
  have hmx : Try.prog.follows .mixedOrders = true := by kernel_rfl
  have hab := aft_bd (r := r) (b := b') (k := b) h'.2 h.2
  obtain ⟨ha0, ha1⟩ := hab
  have hs0 : 1 ≤ s := h.1.1
  have hs1 : s ≤ r := h.1.2
  cases hq : s' == r
  · go_enter Try.func70, Try.ntmps70
    go_wp2
    obtain ⟨W, hW, hB0, b0, b1⟩ := two_start w #[I r, I b, I s] #[I r, I b', I s'] 84 84
    rw [hW]
    clear hW
    have x0 := Ext.cell b0 0
    have x1 := Ext.cell b0 1
    have x2 := Ext.cell b0 2
    have x3 := Ext.cell b1 0
    have x4 := Ext.cell b1 1
    have x5 := Ext.cell b1 2
    simp at x0 x1 x2 x3 x4 x5
    refine wp_region_look hmx (by kernel_rfl) ?_
    repeat (go_big_quiet_step ((go_at_call 88; exact calls_ext (after_calls s' _ hr h'.2 h.2))))
    refine wpQuiet_nil ?_
    intro v
    go_wp2
    go_ret
    exact ⟨by simp [inS, hq], then_below hB0 v.le⟩
  · go_enter Try.func70, Try.ntmps70
    go_wp2
    obtain ⟨W, hW, hB0, b0, b1⟩ := two_start w #[I r, I b, I s] #[I r, I b', I s'] 84 84
    rw [hW]
    clear hW
    have x0 := Ext.cell b0 0
    have x1 := Ext.cell b0 1
    have x2 := Ext.cell b0 2
    have x3 := Ext.cell b1 0
    have x4 := Ext.cell b1 1
    have x5 := Ext.cell b1 2
    simp at x0 x1 x2 x3 x4 x5
    refine wp_region_look hmx (by kernel_rfl) ?_
    repeat (go_big_quiet_step (fail))
    refine wpQuiet_nil ?_
    intro v
    go_wp2
    go_ret
    exact ⟨by simp [inS, hq], then_below hB0 v.le⟩

theorem three_start (w : World) (u0 u1 u2 : Array Value) (t0 t1 t2 : TypeId) :
    ∃ W : World, ((w.alloc (.cells u0 t0)).alloc (.cells u1 t1)).alloc (.cells u2 t2) = W ∧ W.heap.size = w.heap.size + 3 ∧ Below w.heap.size w W ∧ Blk W w.heap.size t0 u0 ∧ Blk W (w.heap.size + 1) t1 u1 ∧ Blk W (w.heap.size + 1 + 1) t2 u2 := by
  obtain ⟨W, hW, hB, b0, b1⟩ := two_start w u0 u1 t0 t1
  refine ⟨_, rfl, by simp, ?_, ?_, ?_, ?_⟩
  · rw [hW]; exact then_alloc hB _
  · rw [hW]; exact b0.alloc _
  · rw [hW]; exact b1.alloc _
  · have := Blk.new ((w.alloc (.cells u0 t0)).alloc (.cells u1 t1)) t2 u2; simpa using this

set_option maxHeartbeats 1000000 in
theorem side_calls (d0 d1 d2 : Int) (b : Bx) (k : Fin 3) (w : World) :
    Calls Try.prog 46 #[A3 d0 d1 d2, B6 b, I (axI k)] w fun e W' => e = .returned (A3 (dimAt d0 d1 d2 k) (bAt b k) (sAt b k)) ∧ Below w.heap.size w W' := by
  have hmx : Try.prog.follows .mixedOrders = true := by kernel_rfl
  rcases fin3 k with rfl | rfl | rfl
  all_goals
    simp only [axI, bAt, sAt, dimAt]
    go_enter Try.func46, Try.ntmps46
    go_wp2
    obtain ⟨W, hW, hs, hB0, b0, b1, b2⟩ := three_start w #[I d0, I d1, I d2] #[I b.x, I b.y, I b.z, I b.a, I b.b, I b.c] #[I 0, I 0, I 0] 26 32 84
    rw [hW]
    clear hW
    have x0 := Ext.cell b0 0
    have x1 := Ext.cell b0 1
    have x2 := Ext.cell b0 2
    have y0 := Ext.cell b1 0
    have y1 := Ext.cell b1 1
    have y2 := Ext.cell b1 2
    have y3 := Ext.cell b1 3
    have y4 := Ext.cell b1 4
    have y5 := Ext.cell b1 5
    simp at x0 x1 x2 y0 y1 y2 y3 y4 y5
    refine wp_region_tail 12 hmx (by kernel_rfl) ?_
    simp only [List.take_succ_cons, List.take_zero, List.drop_succ_cons, List.drop_zero]
    repeat (go_big_quiet_step (fail))
    refine wpQuiet_nil ?_
    intro v
    have q2 := b2.later v.le
    obtain ⟨c0, c1, c2, f0, f1, f2⟩ := q2.row
    gi_wp2
  · have hBX := below_set3 (below_ext hB0 v) (show w.heap.size ≤ w.heap.size + 1 + 1 by omega) (I d0) (I b.x) (I b.a)
    obtain ⟨j0, j1, j2, _, _, _⟩ := (q2.set3 (I d0) (I b.x) (I b.a)).row
    go_wp2
    exact bodyPost_ret (v := A3 d0 b.x b.a) (by simp [results, Try.f46, go_sem, j0, j1, j2]) rfl ⟨rfl, hBX⟩
  · have hBX := below_set3 (below_ext hB0 v) (show w.heap.size ≤ w.heap.size + 1 + 1 by omega) (I d1) (I b.y) (I b.b)
    obtain ⟨j0, j1, j2, _, _, _⟩ := (q2.set3 (I d1) (I b.y) (I b.b)).row
    go_wp2
    exact bodyPost_ret (v := A3 d1 b.y b.b) (by simp [results, Try.f46, go_sem, j0, j1, j2]) rfl ⟨rfl, hBX⟩
  · have hBX := below_set3 (below_ext hB0 v) (show w.heap.size ≤ w.heap.size + 1 + 1 by omega) (I d2) (I b.z) (I b.c)
    obtain ⟨j0, j1, j2, _, _, _⟩ := (q2.set3 (I d2) (I b.z) (I b.c)).row
    go_wp2
    exact bodyPost_ret (v := A3 d2 b.z b.c) (by simp [results, Try.f46, go_sem, j0, j1, j2]) rfl ⟨rfl, hBX⟩

theorem side_any (d0 d1 d2 x y z a b c : Int) (k : Fin 3) (w : World) :
    Calls Try.prog 46 #[A3 d0 d1 d2, .agg #[I x, I y, I z, I a, I b, I c], I (axI k)] w fun e W' => e = .returned (A3 (dimAt d0 d1 d2 k) (dimAt x y z k) (dimAt a b c k)) ∧ Below w.heap.size w W' :=
  side_calls d0 d1 d2 ⟨x, y, z, a, b, c⟩ k w

end Go.Proofs.Ytjmfdpilmljppaa

/-
  Plain arithmetic: steps on a torus add up, lead round, and do not hang on each other; how far midplanes are apart. No program is named here.
-/
namespace Go.Proofs.Ytjmfdpilmljppaa
open Go.RowKit

/-- What a step makes of the coordinates. -/
theorem on_coords {d0 d1 d2 m : Int} (h : mayD d0 d1 d2) (hm : 0 ≤ m ∧ m < d0 * d1 * d2) (k : Fin 3) (n : Int) :
    (0 ≤ onD d0 d1 d2 m k n ∧ onD d0 d1 d2 m k n < d0 * d1 * d2) ∧
    cx d0 (onD d0 d1 d2 m k n) = (if k = 0 then (cx d0 m + n) % d0 else cx d0 m) ∧
    cy d0 d1 (onD d0 d1 d2 m k n) = (if k = 1 then (cy d0 d1 m + n) % d1 else cy d0 d1 m) ∧
    cz d0 d1 (onD d0 d1 d2 m k n) = (if k = 2 then (cz d0 d1 m + n) % d2 else cz d0 d1 m) := by
  obtain ⟨i0, i1, i2⟩ := inD_on h hm n
  match k with
  | 0 => exact node_of_in h i0
  | 1 => exact node_of_in h i1
  | 2 => exact node_of_in h i2
theorem on_node {d0 d1 d2 m : Int} (h : mayD d0 d1 d2) (hm : 0 ≤ m ∧ m < d0 * d1 * d2) (k : Fin 3) (n : Int) : 0 ≤ onD d0 d1 d2 m k n ∧ onD d0 d1 d2 m k n < d0 * d1 * d2 := (on_coords h hm k n).1

/-- Midplanes with the same coordinates are one. -/
theorem node_ext {d0 d1 m n : Int} (hx : cx d0 m = cx d0 n) (hy : cy d0 d1 m = cy d0 d1 n) (hz : cz d0 d1 m = cz d0 d1 n) : m = n := by
  rw [← num_of_node (d0 := d0) (d1 := d1) (m := m), hx, hy, hz, num_of_node]

theorem on_on {d0 d1 d2 m : Int} (h : mayD d0 d1 d2) (hm : 0 ≤ m ∧ m < d0 * d1 * d2) (k : Fin 3) (a b : Int) : onD d0 d1 d2 (onD d0 d1 d2 m k a) k b = onD d0 d1 d2 m k (a + b) := by
  obtain ⟨n1, x1, y1, z1⟩ := on_coords h hm k a
  obtain ⟨_, x2, y2, z2⟩ := on_coords h n1 k b
  obtain ⟨_, x3, y3, z3⟩ := on_coords h hm k (a + b)
  refine node_ext (d0 := d0) (d1 := d1) ?_ ?_ ?_
  · rw [x2, x3, x1]; split
    · rw [Int.emod_add_emod, Int.add_assoc]
    · rfl
  · rw [y2, y3, y1]; split
    · rw [Int.emod_add_emod, Int.add_assoc]
    · rfl
  · rw [z2, z3, z1]; split
    · rw [Int.emod_add_emod, Int.add_assoc]
    · rfl
theorem on_comm {d0 d1 d2 m : Int} (h : mayD d0 d1 d2) (hm : 0 ≤ m ∧ m < d0 * d1 * d2) (j k : Fin 3) (a b : Int) : onD d0 d1 d2 (onD d0 d1 d2 m j a) k b = onD d0 d1 d2 (onD d0 d1 d2 m k b) j a := by
  by_cases hjk : j = k
  · subst hjk; rw [on_on h hm, on_on h hm, Int.add_comm]
  · obtain ⟨n1, x1, y1, z1⟩ := on_coords h hm j a
    obtain ⟨_, x2, y2, z2⟩ := on_coords h n1 k b
    obtain ⟨n3, x3, y3, z3⟩ := on_coords h hm k b
    obtain ⟨_, x4, y4, z4⟩ := on_coords h n3 j a
    refine node_ext (d0 := d0) (d1 := d1) ?_ ?_ ?_
    · rw [x2, x4, x1, x3]
      by_cases e : j = 0
      · by_cases e' : k = 0
        · exact absurd (e.trans e'.symm) hjk
        · simp [e, e']
      · by_cases e' : k = 0 <;> simp [e, e']
    · rw [y2, y4, y1, y3]
      by_cases e : j = 1
      · by_cases e' : k = 1
        · exact absurd (e.trans e'.symm) hjk
        · simp [e, e']
      · by_cases e' : k = 1 <;> simp [e, e']
    · rw [z2, z4, z1, z3]
      by_cases e : j = 2
      · by_cases e' : k = 2
        · exact absurd (e.trans e'.symm) hjk
        · simp [e, e']
      · by_cases e' : k = 2 <;> simp [e, e']
theorem on_round {d0 d1 d2 m : Int} (h : mayD d0 d1 d2) (hm : 0 ≤ m ∧ m < d0 * d1 * d2) (k : Fin 3) (n : Int) (hn : n = 0 ∨ n = dimAt d0 d1 d2 k) : onD d0 d1 d2 m k n = m := by
  obtain ⟨ix, iy, iz⟩ := inD_of_node h hm
  obtain ⟨_, x1, y1, z1⟩ := on_coords h hm k n
  have e : ∀ c d : Int, 0 ≤ c → c < d → n = 0 ∨ n = d → (c + n) % d = c := by
    intro c d h1 h2 h3
    rcases h3 with h3 | h3
    · rw [h3, Int.add_zero, Int.emod_eq_of_lt h1 h2]
    · rw [h3, Int.add_emod_right, Int.emod_eq_of_lt h1 h2]
  refine node_ext (d0 := d0) (d1 := d1) ?_ ?_ ?_
  · rw [x1]; split
    · rename_i hk; subst hk; exact e _ _ ix.1 ix.2 hn
    · rfl
  · rw [y1]; split
    · rename_i hk; subst hk; exact e _ _ iy.1 iy.2 hn
    · rfl
  · rw [z1]; split
    · rename_i hk; subst hk; exact e _ _ iz.1 iz.2 hn
    · rfl

/-- How far apart on a ring, said without a remainder. -/
theorem ring_eq {n p q : Int} (hp : 0 ≤ p ∧ p < n) (hq : 0 ≤ q ∧ q < n) :
    (p ≤ q ∧ ((q - p ≤ n - (q - p) ∧ ring n p q = q - p) ∨ (n - (q - p) < q - p ∧ ring n p q = n - (q - p)))) ∨
    (q < p ∧ ((q - p + n ≤ p - q ∧ ring n p q = q - p + n) ∨ (p - q < q - p + n ∧ ring n p q = p - q))) := by
  have e : (q - p) % n = if p ≤ q then q - p else q - p + n := by
    split
    · exact Int.emod_eq_of_lt (by omega) (by omega)
    · rw [← Int.add_emod_right]; exact Int.emod_eq_of_lt (by omega) (by omega)
  unfold ring minI
  by_cases h : p ≤ q
  · rw [if_pos h] at e
    rw [e]
    by_cases h' : n - (q - p) < q - p
    · rw [if_pos h']; omega
    · rw [if_neg h']; omega
  · rw [if_neg h] at e
    rw [e]
    by_cases h' : n - (q - p + n) < q - p + n
    · rw [if_pos h']; omega
    · rw [if_neg h']; omega
theorem ring_sym {n p q : Int} (hp : 0 ≤ p ∧ p < n) (hq : 0 ≤ q ∧ q < n) : ring n p q = ring n q p := by
  have a := ring_eq hp hq
  have b := ring_eq hq hp
  omega
theorem ring_pos {n p q : Int} (hp : 0 ≤ p ∧ p < n) (hq : 0 ≤ q ∧ q < n) : 0 ≤ ring n p q ∧ (ring n p q = 0 ↔ p = q) := by
  have a := ring_eq hp hq
  omega
theorem ring_tri {n p q r : Int} (hp : 0 ≤ p ∧ p < n) (hq : 0 ≤ q ∧ q < n) (hr : 0 ≤ r ∧ r < n) : ring n p r ≤ ring n p q + ring n q r := by
  have a := ring_eq hp hq
  have b := ring_eq hq hr
  have c := ring_eq hp hr
  omega
theorem ring_step {n p : Int} (hp : 0 ≤ p ∧ p < n) : ring n p ((p + 1) % n) = if 1 < n then 1 else 0 := by
  have e : (p + 1) % n = if p + 1 < n then p + 1 else 0 := by
    split
    · exact Int.emod_eq_of_lt (by omega) (by omega)
    · have : p + 1 = n := by omega
      rw [this, Int.emod_self]
  have hb : 0 ≤ (p + 1) % n ∧ (p + 1) % n < n := ⟨Int.emod_nonneg _ (by omega), Int.emod_lt_of_pos _ (by omega)⟩
  have a := ring_eq hp hb
  generalize (p + 1) % n = q at *
  split <;> split at e <;> omega
theorem ring_self {n p : Int} (hp : 0 ≤ p ∧ p < n) : ring n p p = 0 := (ring_pos hp hp).2.2 rfl

theorem far_bd {d0 d1 d2 : Int} (h : mayD d0 d1 d2) (a b : Int) : 0 ≤ farD d0 d1 d2 a b ∧ farD d0 d1 d2 a b ≤ 48 := by
  obtain ⟨h0, h1, h2⟩ := h
  unfold okD at h0 h1 h2
  have x := ring_bd (p := cx d0 a) (q := cx d0 b) h0.1 h0.2
  have y := ring_bd (p := cy d0 d1 a) (q := cy d0 d1 b) h1.1 h1.2
  have z := ring_bd (p := cz d0 d1 a) (q := cz d0 d1 b) h2.1 h2.2
  unfold farD
  omega
theorem far_sym {d0 d1 d2 a b : Int} (h : mayD d0 d1 d2) (ha : 0 ≤ a ∧ a < d0 * d1 * d2) (hb : 0 ≤ b ∧ b < d0 * d1 * d2) : farD d0 d1 d2 a b = farD d0 d1 d2 b a := by
  obtain ⟨a0, a1, a2⟩ := inD_of_node h ha
  obtain ⟨b0, b1, b2⟩ := inD_of_node h hb
  unfold farD
  rw [ring_sym a0 b0, ring_sym a1 b1, ring_sym a2 b2]
theorem far_zero {d0 d1 d2 a b : Int} (h : mayD d0 d1 d2) (ha : 0 ≤ a ∧ a < d0 * d1 * d2) (hb : 0 ≤ b ∧ b < d0 * d1 * d2) : farD d0 d1 d2 a b = 0 ↔ a = b := by
  obtain ⟨a0, a1, a2⟩ := inD_of_node h ha
  obtain ⟨b0, b1, b2⟩ := inD_of_node h hb
  have x := ring_pos a0 b0
  have y := ring_pos a1 b1
  have z := ring_pos a2 b2
  constructor
  · intro hf
    unfold farD at hf
    exact node_ext (d0 := d0) (d1 := d1) (x.2.1 (by omega)) (y.2.1 (by omega)) (z.2.1 (by omega))
  · intro e
    subst e
    unfold farD
    rw [ring_self a0, ring_self a1, ring_self a2]; rfl
theorem far_tri {d0 d1 d2 a b c : Int} (h : mayD d0 d1 d2) (ha : 0 ≤ a ∧ a < d0 * d1 * d2) (hb : 0 ≤ b ∧ b < d0 * d1 * d2) (hc : 0 ≤ c ∧ c < d0 * d1 * d2) :
    farD d0 d1 d2 a c ≤ farD d0 d1 d2 a b + farD d0 d1 d2 b c := by
  obtain ⟨a0, a1, a2⟩ := inD_of_node h ha
  obtain ⟨b0, b1, b2⟩ := inD_of_node h hb
  obtain ⟨c0, c1, c2⟩ := inD_of_node h hc
  have x := ring_tri a0 b0 c0
  have y := ring_tri a1 b1 c1
  have z := ring_tri a2 b2 c2
  unfold farD
  omega
theorem far_on {d0 d1 d2 a : Int} (h : mayD d0 d1 d2) (ha : 0 ≤ a ∧ a < d0 * d1 * d2) (k : Fin 3) : farD d0 d1 d2 a (onD d0 d1 d2 a k 1) = if 1 < dimAt d0 d1 d2 k then 1 else 0 := by
  obtain ⟨a0, a1, a2⟩ := inD_of_node h ha
  obtain ⟨_, x1, y1, z1⟩ := on_coords h ha k 1
  unfold farD
  rw [x1, y1, z1]
  match k with
  | 0 => simp [ring_step a0, ring_self a1, ring_self a2, dimAt]; rfl
  | 1 => simp [ring_step a1, ring_self a0, ring_self a2, dimAt]; rfl
  | 2 => simp [ring_step a2, ring_self a0, ring_self a1, dimAt]; rfl

/-- Some steps on or back, no more than the way: just the whole way leads there. -/
theorem ring_hit {n p q j : Int} (hp : 0 ≤ p ∧ p < n) (hq : 0 ≤ q ∧ q < n) (h0 : 0 ≤ j) (hj : j ≤ ring n p q) : (j < ring n p q ↔ ((p + j) % n ≠ q ∧ (p + -j) % n ≠ q)) := by
  have a := ring_eq hp hq
  have hle : ring n p q ≤ n := by omega
  have e1 : (p + j) % n = p + j ∨ (p + j) % n = p + j - n := by
    rcases Int.lt_or_le (p + j) n with h | h
    · exact .inl (Int.emod_eq_of_lt (by omega) h)
    · right
      rw [← Int.sub_emod_right]
      exact Int.emod_eq_of_lt (by omega) (by omega)
  have e2 : (p + -j) % n = p + -j ∨ (p + -j) % n = p + -j + n := by
    rcases Int.lt_or_le (p + -j) 0 with h | h
    · right
      rw [← Int.add_emod_right]
      exact Int.emod_eq_of_lt (by omega) (by omega)
    · exact .inl (Int.emod_eq_of_lt h (by omega))
  have b1 : 0 ≤ (p + j) % n ∧ (p + j) % n < n := ⟨Int.emod_nonneg _ (by omega), Int.emod_lt_of_pos _ (by omega)⟩
  have b2 : 0 ≤ (p + -j) % n ∧ (p + -j) % n < n := ⟨Int.emod_nonneg _ (by omega), Int.emod_lt_of_pos _ (by omega)⟩
  generalize (p + j) % n = u at *
  generalize (p + -j) % n = v at *
  generalize ring n p q = r at *
  constructor
  · intro h; constructor <;> omega
  · rintro ⟨h1, h2⟩
    rcases Int.lt_or_le j r with h | h
    · exact h
    · omega

end Go.Proofs.Ytjmfdpilmljppaa

/-
  Plain arithmetic of cables: which midplanes steps along an axis lead to, listed rising; how many there are; lines are the same or apart. No program is named here.
-/
namespace Go.Proofs.Ytjmfdpilmljppaa
open Go.RowKit

theorem emod_inj {c d a b : Int} (hd : 0 < d) (ha : 0 ≤ a ∧ a < d) (hb : 0 ≤ b ∧ b < d) (e : (c + a) % d = (c + b) % d) : a = b := by
  have h1 := Int.emod_add_mul_ediv (c + a) d
  have h2 := Int.emod_add_mul_ediv (c + b) d
  rw [e] at h1
  generalize (c + b) % d = r at h1 h2
  generalize (c + a) / d = p at h1
  generalize (c + b) / d = q at h2
  have h3 : d * (p - q) = a - b := by rw [Int.mul_sub]; omega
  rcases Int.lt_trichotomy (p - q) 0 with h | h | h
  · have := Int.mul_le_mul_of_nonneg_left (show p - q ≤ -1 by omega) (Int.le_of_lt hd)
    omega
  · rw [h] at h3; omega
  · have := Int.mul_le_mul_of_nonneg_left (show 1 ≤ p - q by omega) (Int.le_of_lt hd)
    omega

/-- Two ways of less than the ring's length that lead to one midplane are the same. -/
theorem on_inj {d0 d1 d2 m : Int} (h : mayD d0 d1 d2) (hm : 0 ≤ m ∧ m < d0 * d1 * d2) (k : Fin 3) {a b : Int} (ha : 0 ≤ a ∧ a < dimAt d0 d1 d2 k) (hb : 0 ≤ b ∧ b < dimAt d0 d1 d2 k) (e : onD d0 d1 d2 m k a = onD d0 d1 d2 m k b) : a = b := by
  obtain ⟨_, x1, y1, z1⟩ := on_coords h hm k a
  obtain ⟨_, x2, y2, z2⟩ := on_coords h hm k b
  have hk := dimAt_ok h k
  unfold okD at hk
  rw [e] at x1 y1 z1
  match k, ha, hb, hk, x1, x2, y1, y2, z1, z2 with
  | 0, ha, hb, hk, x1, x2, _, _, _, _ => exact emod_inj (d := d0) (by simp only [dimAt] at hk; omega) ha hb (x1.symm.trans x2)
  | 1, ha, hb, hk, _, _, y1, y2, _, _ => exact emod_inj (d := d1) (by simp only [dimAt] at hk; omega) ha hb (y1.symm.trans y2)
  | 2, ha, hb, hk, _, _, _, _, z1, z2 => exact emod_inj (d := d2) (by simp only [dimAt] at hk; omega) ha hb (z1.symm.trans z2)

/-- Steps count but for the ring's length. -/
theorem on_mod {d0 d1 d2 m : Int} (h : mayD d0 d1 d2) (hm : 0 ≤ m ∧ m < d0 * d1 * d2) (k : Fin 3) (n : Int) : onD d0 d1 d2 m k (n % dimAt d0 d1 d2 k) = onD d0 d1 d2 m k n := by
  obtain ⟨_, x1, y1, z1⟩ := on_coords h hm k (n % dimAt d0 d1 d2 k)
  obtain ⟨_, x2, y2, z2⟩ := on_coords h hm k n
  refine node_ext (d0 := d0) (d1 := d1) ?_ ?_ ?_
  · rw [x1, x2]; split
    · rename_i e; subst e; exact Int.add_emod_emod ..
    · rfl
  · rw [y1, y2]; split
    · rename_i e; subst e; exact Int.add_emod_emod ..
    · rfl
  · rw [z1, z2]; split
    · rename_i e; subst e; exact Int.add_emod_emod ..
    · rfl

/-- One is among so many from another one on. -/
def amongW (d0 d1 d2 m : Int) (k : Fin 3) (many : Nat) (o : Int) : Bool := (List.range many).any fun i => decide (onD d0 d1 d2 m k (i : Int) = o)
theorem among_iff {d0 d1 d2 m : Int} {k : Fin 3} {many : Nat} {o : Int} : amongW d0 d1 d2 m k many o = true ↔ ∃ i : Nat, i < many ∧ onD d0 d1 d2 m k i = o := by
  simp [amongW, List.any_eq_true]

/-- Those, rising. -/
def nodesW (d0 d1 d2 m : Int) (k : Fin 3) (many : Nat) : List Nat := (List.range (d0 * d1 * d2).toNat).filter fun o => amongW d0 d1 d2 m k many (o : Int)
theorem nodes_rise (d0 d1 d2 m : Int) (k : Fin 3) (many : Nat) : (nodesW d0 d1 d2 m k many).Pairwise (· < ·) := (List.pairwise_lt_range).filter _
theorem nodes_mem {d0 d1 d2 m : Int} {k : Fin 3} {many : Nat} {o : Nat} : o ∈ nodesW d0 d1 d2 m k many ↔ (o : Int) < d0 * d1 * d2 ∧ ∃ i : Nat, i < many ∧ onD d0 d1 d2 m k i = (o : Int) := by
  unfold nodesW
  rw [List.mem_filter, List.mem_range, among_iff]
  constructor
  · rintro ⟨a, b⟩; exact ⟨by omega, b⟩
  · rintro ⟨a, b⟩; exact ⟨by omega, b⟩

theorem lenN_le : ∀ (a b : List Nat), a.Nodup → (∀ x ∈ a, x ∈ b) → a.length ≤ b.length
  | [], b, _, _ => Nat.zero_le _
  | x :: a, b, hn, hs => by
    have hx := hs x (by simp)
    have ih := lenN_le a (b.erase x) (List.nodup_cons.1 hn).2 fun y hy => by
      have hne : y ≠ x := fun e => (List.nodup_cons.1 hn).1 (e ▸ hy)
      exact (List.mem_erase_of_ne hne).2 (hs y (by simp [hy]))
    rw [List.length_erase_of_mem hx] at ih
    have : 0 < b.length := List.length_pos_of_mem hx
    simp only [List.length_cons]
    omega
/-- There are as many as steps. -/
theorem nodes_len {d0 d1 d2 m : Int} (h : mayD d0 d1 d2) (hm : 0 ≤ m ∧ m < d0 * d1 * d2) (k : Fin 3) {many : Nat} (hk : (many : Int) ≤ dimAt d0 d1 d2 k) : (nodesW d0 d1 d2 m k many).length = many := by
  have hn1 : (nodesW d0 d1 d2 m k many).Nodup := (nodes_rise d0 d1 d2 m k many).imp fun hab e => by omega
  have hn2 : ((List.range many).map fun i : Nat => (onD d0 d1 d2 m k (i : Int)).toNat).Nodup := by
    refine List.pairwise_map.2 ?_
    refine (List.pairwise_lt_range (n := many)).imp_of_mem fun {a b} ha hb hab e => ?_
    have ha' := List.mem_range.1 ha
    have hb' := List.mem_range.1 hb
    have n1 := on_node h hm k (a : Int)
    have n2 := on_node h hm k (b : Int)
    have := on_inj h hm k (a := (a : Int)) (b := (b : Int)) (by omega) (by omega) (by omega)
    omega
  have e : ∀ x, x ∈ nodesW d0 d1 d2 m k many ↔ x ∈ (List.range many).map fun i : Nat => (onD d0 d1 d2 m k (i : Int)).toNat := by
    intro x
    rw [nodes_mem, List.mem_map]
    constructor
    · rintro ⟨_, i, hi, ei⟩
      exact ⟨i, List.mem_range.2 hi, by rw [ei]; exact Int.toNat_natCast x⟩
    · rintro ⟨i, hi, rfl⟩
      have n1 := on_node h hm k (i : Int)
      exact ⟨by omega, i, List.mem_range.1 hi, by omega⟩
  have l1 := lenN_le _ _ hn1 fun x hx => (e x).1 hx
  have l2 := lenN_le _ _ hn2 fun x hx => (e x).2 hx
  simp only [List.length_map, List.length_range] at l1 l2
  omega
theorem nodes_more {d0 d1 d2 m : Int} {k : Fin 3} {many more : Nat} (h : many ≤ more) {o : Nat} (ho : o ∈ nodesW d0 d1 d2 m k many) : o ∈ nodesW d0 d1 d2 m k more := by
  obtain ⟨a, i, hi, e⟩ := nodes_mem.1 ho
  exact nodes_mem.2 ⟨a, i, by omega, e⟩

/-- Steps along the axis lead from one to the other. -/
def oneLine (d0 d1 d2 m o : Int) (k : Fin 3) : Bool := amongW d0 d1 d2 m k (dimAt d0 d1 d2 k).toNat o
theorem one_any {d0 d1 d2 m o : Int} (h : mayD d0 d1 d2) (hm : 0 ≤ m ∧ m < d0 * d1 * d2) (k : Fin 3) : oneLine d0 d1 d2 m o k = true ↔ ∃ n : Int, onD d0 d1 d2 m k n = o := by
  have hk := dimAt_ok h k
  unfold okD at hk
  unfold oneLine
  rw [among_iff]
  constructor
  · rintro ⟨i, _, e⟩; exact ⟨i, e⟩
  · rintro ⟨n, e⟩
    have h0 := Int.emod_nonneg n (show dimAt d0 d1 d2 k ≠ 0 by omega)
    have h1 := Int.emod_lt_of_pos n (show 0 < dimAt d0 d1 d2 k by omega)
    refine ⟨(n % dimAt d0 d1 d2 k).toNat, by omega, ?_⟩
    rw [Int.toNat_of_nonneg h0, on_mod h hm, e]
/-- Midplanes of one line have one line. -/
theorem line_same {d0 d1 d2 m o : Int} (h : mayD d0 d1 d2) (hm : 0 ≤ m ∧ m < d0 * d1 * d2) (ho : 0 ≤ o ∧ o < d0 * d1 * d2) (k : Fin 3) (h1 : oneLine d0 d1 d2 m o k = true) :
    nodesW d0 d1 d2 m k (dimAt d0 d1 d2 k).toNat = nodesW d0 d1 d2 o k (dimAt d0 d1 d2 k).toNat := by
  obtain ⟨n, e⟩ := (one_any h hm k).1 h1
  unfold nodesW
  refine List.filter_congr fun p _ => ?_
  rw [Bool.eq_iff_iff]
  show oneLine d0 d1 d2 m p k = true ↔ oneLine d0 d1 d2 o p k = true
  rw [one_any h hm, one_any h ho]
  constructor
  · rintro ⟨a, ea⟩
    exact ⟨a - n, by rw [← e, on_on h hm, show n + (a - n) = a by omega]; exact ea⟩
  · rintro ⟨a, ea⟩
    exact ⟨n + a, by rw [← on_on h hm, e]; exact ea⟩
/-- Lines that are not the same have no midplane in common. -/
theorem line_apart {d0 d1 d2 m o : Int} (h : mayD d0 d1 d2) (hm : 0 ≤ m ∧ m < d0 * d1 * d2) (ho : 0 ≤ o ∧ o < d0 * d1 * d2) (k : Fin 3) (h1 : oneLine d0 d1 d2 m o k = false) {p : Nat}
    (ha : p ∈ nodesW d0 d1 d2 m k (dimAt d0 d1 d2 k).toNat) (hb : p ∈ nodesW d0 d1 d2 o k (dimAt d0 d1 d2 k).toNat) : False := by
  obtain ⟨_, i, _, ei⟩ := nodes_mem.1 ha
  obtain ⟨_, j, _, ej⟩ := nodes_mem.1 hb
  have : oneLine d0 d1 d2 m o k = true := by
    rw [one_any h hm]
    refine ⟨i + -j, ?_⟩
    rw [← on_on h hm, ei, ← ej, on_on h ho, Int.add_right_neg]
    exact on_round h ho k 0 (.inl rfl)
  rw [this] at h1
  cases h1

/-- A cable's number. -/
def cabW (d0 d1 d2 : Int) (k : Fin 3) (o : Int) : Int := axI k * (d0 * d1 * d2) + o
theorem cab_bd {d0 d1 d2 o : Int} (h : mayD d0 d1 d2) (ho : 0 ≤ o ∧ o < d0 * d1 * d2) (k : Fin 3) :
    0 ≤ cabW d0 d1 d2 k o ∧ cabW d0 d1 d2 k o < 3 * (d0 * d1 * d2) ∧ cabW d0 d1 d2 k o / (d0 * d1 * d2) = axI k ∧ cabW d0 d1 d2 k o % (d0 * d1 * d2) = o := by
  have hN := N_bd h
  unfold cabW
  generalize d0 * d1 * d2 = N at *
  have e1 : (axI k * N + o) / N = axI k := by
    rw [Int.add_comm, Int.add_mul_ediv_right _ _ (by omega), Int.ediv_eq_zero_of_lt ho.1 ho.2, Int.zero_add]
  have e2 : (axI k * N + o) % N = o := by
    rw [Int.add_comm, Int.add_mul_emod_self_right, Int.emod_eq_of_lt ho.1 ho.2]
  refine ⟨?_, ?_, e1, e2⟩
  · match k with
    | 0 => simp only [axI]; omega
    | 1 => simp only [axI]; omega
    | 2 => simp only [axI]; omega
  · match k with
    | 0 => simp only [axI]; omega
    | 1 => simp only [axI]; omega
    | 2 => simp only [axI]; omega
theorem cab_inj {d0 d1 d2 o p : Int} {k : Fin 3} (e : cabW d0 d1 d2 k o = cabW d0 d1 d2 k p) : o = p := by
  unfold cabW at e
  omega

/-- The cables from so many midplanes on, rising; none, if there is but one along the axis. -/
def cablesW (d0 d1 d2 m : Int) (k : Fin 3) (many : Nat) : List Int := if 1 < dimAt d0 d1 d2 k then (nodesW d0 d1 d2 m k many).map (fun o : Nat => cabW d0 d1 d2 k (o : Int)) else []
theorem cables_mem {d0 d1 d2 m : Int} {k : Fin 3} {many : Nat} {n : Int} : n ∈ cablesW d0 d1 d2 m k many ↔ 1 < dimAt d0 d1 d2 k ∧ ∃ o ∈ nodesW d0 d1 d2 m k many, n = cabW d0 d1 d2 k (o : Int) := by
  unfold cablesW
  split
  · rename_i h
    rw [List.mem_map]
    constructor
    · rintro ⟨o, ho, e⟩; exact ⟨h, o, ho, e.symm⟩
    · rintro ⟨_, o, ho, e⟩; exact ⟨o, ho, e.symm⟩
  · rename_i h
    simp [h]
theorem cables_len {d0 d1 d2 m : Int} (h : mayD d0 d1 d2) (hm : 0 ≤ m ∧ m < d0 * d1 * d2) (k : Fin 3) {many : Nat} (hk : (many : Int) ≤ dimAt d0 d1 d2 k) :
    (cablesW d0 d1 d2 m k many).length = if 1 < dimAt d0 d1 d2 k then many else 0 := by
  unfold cablesW
  split
  · rw [List.length_map, nodes_len h hm k hk]
  · rfl
theorem cables_rise (d0 d1 d2 m : Int) (k : Fin 3) (many : Nat) : (cablesW d0 d1 d2 m k many).Pairwise (· < ·) := by
  unfold cablesW
  split
  · refine List.pairwise_map.2 ((nodes_rise d0 d1 d2 m k many).imp fun {a b} hab => ?_)
    unfold cabW
    omega
  · exact List.Pairwise.nil
theorem cables_more {d0 d1 d2 m : Int} {k : Fin 3} {many more : Nat} (h : many ≤ more) {n : Int} (hn : n ∈ cablesW d0 d1 d2 m k many) : n ∈ cablesW d0 d1 d2 m k more := by
  obtain ⟨a, o, ho, e⟩ := cables_mem.1 hn
  exact cables_mem.2 ⟨a, o, nodes_more h ho, e⟩
theorem cables_same {d0 d1 d2 m o : Int} (h : mayD d0 d1 d2) (hm : 0 ≤ m ∧ m < d0 * d1 * d2) (ho : 0 ≤ o ∧ o < d0 * d1 * d2) (k : Fin 3) (h1 : oneLine d0 d1 d2 m o k = true) :
    cablesW d0 d1 d2 m k (dimAt d0 d1 d2 k).toNat = cablesW d0 d1 d2 o k (dimAt d0 d1 d2 k).toNat := by
  unfold cablesW
  rw [line_same h hm ho k h1]
theorem cables_apart {d0 d1 d2 m o : Int} (h : mayD d0 d1 d2) (hm : 0 ≤ m ∧ m < d0 * d1 * d2) (ho : 0 ≤ o ∧ o < d0 * d1 * d2) (k : Fin 3) (h1 : oneLine d0 d1 d2 m o k = false) {n : Int}
    (ha : n ∈ cablesW d0 d1 d2 m k (dimAt d0 d1 d2 k).toNat) (hb : n ∈ cablesW d0 d1 d2 o k (dimAt d0 d1 d2 k).toNat) : False := by
  obtain ⟨_, p, hp, e⟩ := cables_mem.1 ha
  obtain ⟨_, q, hq, e'⟩ := cables_mem.1 hb
  have := cab_inj (e.symm.trans e')
  have hpq : p = q := by omega
  subst hpq
  exact line_apart h hm ho k h1 hp hq

end Go.Proofs.Ytjmfdpilmljppaa

/-
  pos.Check, pos.many, pos.Many, pos.checkNode: what each call answers, for every input; nothing that lay before is turned.
-/
import Derived.Test.YtbbddolalglmnaaPosAxes
import Derived.Test.YtbbddolalglmnaaPosMath
import Derived.Test.YtbbddolalglmnaaDraw
namespace Go.Proofs.Ytbbddolalglmnaa
open Go.RowKit Go.Shelf

attribute [local go_sem] Oper.semAt_some ext_const

set_option maxRecDepth 100000 in
set_option maxHeartbeats 2000000 in
theorem check_in (F : Fence) (n : Nat) (hC : F.fn 41) (hA : F.fn 39) (hF : F.fn 50) (hro : F.round = none) (hn : 3 ≤ n) (d0 d1 d2 : Int) (w : World) :
    CallsIn F n Try.prog 41 #[A3 d0 d1 d2] w fun e W' => ((mayD d0 d1 d2 ∧ e = .returned (I 0)) ∨ (¬ mayD d0 d1 d2 ∧ e = .returned (I 8))) ∧ Below w.heap.size w W' := by
  have h1 : 1 ≤ n := by omega
  refine callsIn_of_wp_marks Try.func41 rfl hC ?_ hro
  simp only [Try.ntmps41, List.size_toArray, List.length_cons, List.length_nil, Nat.reduceAdd, Nat.reduceSub, Array.replicate_succ, Array.replicate_zero, List.push_toArray, List.append_toArray, List.nil_append, List.cons_append]
  gi_wp2_with (gi_at_call 39; refine (axes_in F (n - 1) hA hro _ _ _ _).mono ?_; rintro e w' ⟨rfl, rfl⟩)
  have b0 := ((Blk.new w 26 #[I d0, I d1, I d2]).alloc (.cells #[I 0] 22)).alloc (.cells #[I d0, I d1, I d2] 26)
  have b1 := (Blk.new (w.alloc (.cells #[I d0, I d1, I d2] 26)) 22 #[I 0]).alloc (.cells #[I d0, I d1, I d2] 26)
  have b2 := Blk.new ((w.alloc (.cells #[I d0, I d1, I d2] 26)).alloc (.cells #[I 0] 22)) 26 #[I d0, I d1, I d2]
  simp only [World.size_alloc] at b1 b2
  have hB0 : Below w.heap.size w (((w.alloc (.cells #[I d0, I d1, I d2] 26)).alloc (.cells #[I 0] 22)).alloc (.cells #[I d0, I d1, I d2] 26)) := (((Below.refl _ w).alloc (Nat.le_refl _) _).alloc (by simp) _).alloc (by simp; omega) _
  refine wpIn_rangeFunc_ownF hro h1 (gf := 50) (lb := #[.pointer (some ⟨w.heap.size + 1 + 1, 0, none⟩)]) rfl hF (enters_of Try.func50 (by kernel_rfl) rfl)
    (axes_stops F (n - 1) hF hro (by omega) (w.heap.size + 1 + 1) d0 d1 d2 _ b2.lt (b2.cell 0) (b2.cell 1) (b2.cell 2)) (fun _ _ => trivial) (fun _ _ _ _ _ _ _ _ => trivial) (Below.refl _ _) (fun _ => rfl)
    (fun pre W => (((∀ k ∈ pre, okD (dimAt d0 d1 d2 k)) ∧ Blk W w.heap.size 26 #[I d0, I d1, I d2]) ∧ Blk W (w.heap.size + 1) 22 #[I 0]) ∧ Below w.heap.size w W)
    (fun c pre W => ((c = .ret ∧ (∃ k ∈ pre, ¬ okD (dimAt d0 d1 d2 k))) ∧ Blk W (w.heap.size + 1) 22 #[I 8]) ∧ Below w.heap.size w W)
    (OwnFrom.and (Own.from (own_and (own_and (own_pure _) (blk_own _ _ _)) (blk_own _ _ _)) _) (ownFrom_below (Nat.le_refl _) (by simp; omega)))
    (fun c => OwnFrom.and (Own.from (own_and (own_pure _) (blk_own _ _ _)) _) (ownFrom_below (Nat.le_refl _) (by simp; omega)))
    ⟨⟨⟨by simp, b0⟩, b1⟩, hB0⟩
    (fun x => { tmps := #[A3 d0 d1 d2, .pointer (some ⟨w.heap.size, 0, none⟩), .pointer (some ⟨w.heap.size + 1, 0, none⟩), .int .i64 (axI x), A3 d0 d1 d2, .func (.func 50) #[] #[.pointer (some ⟨w.heap.size + 1 + 1, 0, none⟩)], .int .i64 (axI x), .int .i64 (strd d0 d1 x), undef, undef, undef, undef, undef, undef, undef, undef, undef, undef], defers := [] }) ?assign ?body ?done ?stop
  case assign =>
    intro l x W K hK
    gi_wp2
    exact hK
  case body =>
    rintro l pre x W ⟨⟨⟨hp, hb0⟩, hb1⟩, hB⟩ _
    have c0 := hb0.cell 0
    have c1 := hb0.cell 1
    have c2 := hb0.cell 2
    have c3 := hb1.cell 0
    have f3 := hb1.frozen 0
    have fin : ∀ x : Fin 3, okD (dimAt d0 d1 d2 x) → ∀ k ∈ pre ++ [x], okD (dimAt d0 d1 d2 k) := fun x hx k hk => by
      rcases List.mem_append.1 hk with h | h
      · exact hp k h
      · simp at h; subst h; exact hx
    simp at c0 c1 c2 c3
    rcases fin3 x with rfl | rfl | rfl
    all_goals
      simp only [axI]
      gi_wp2
    all_goals first
      | exact ⟨KeepsOthers.refl _, trivial, ⟨⟨fin _ (by simp only [dimAt, okD]; omega), hb0⟩, hb1⟩, hB⟩
      | exact ⟨KeepsOthers.setCell _ _ _, ⟨⟨rfl, _, List.mem_append.2 (.inr (List.mem_singleton.2 rfl)), by simp only [dimAt, okD]; omega⟩, hb1.set 0 _⟩, hB.setCell (p := ⟨w.heap.size + 1, 0, none⟩) (by simp) _⟩
  case done =>
    rintro D xs W hD rfl ⟨⟨⟨hp, hb0⟩, hb1⟩, hB⟩ hK
    have c3 := hb1.cell 0
    have f3 := hb1.frozen 0
    simp at c3
    gi_wp2
    have hK' := (KeepsOthers.setCell W ⟨w.heap.size + 1, 0, none⟩ (.int .i64 0)).same D _ hK rfl
    refine ⟨by simp, .inl ⟨_, _, rfl, run_takeDeferred hK', ?_⟩⟩
    have hc5 := ((hb1.set 0 (.int .i64 0)).putObj (.deferred none) hK' rfl).cell 0
    have ho0 := hp 0 (by simp)
    have ho1 := hp 1 (by simp)
    have ho2 := hp 2 (by simp)
    simp only [dimAt, okD] at ho0 ho1 ho2
    refine ⟨.int .i64 0, ?_, .inl ⟨⟨ho0, ho1, ho2⟩, rfl⟩, below_put _ (hB.setCell (p := ⟨w.heap.size + 1, 0, none⟩) (by simp) _) (by simp at hD; omega) hK'⟩
    simp [results, Try.f41, go_sem, hc5]
  case stop =>
    rintro D c pre W hD hpre ⟨⟨⟨rfl, k, hk, hno⟩, hb1⟩, hB⟩ hK
    have c3 := hb1.cell 0
    simp at c3
    gi_wp2
    refine ⟨by simp, .inl ⟨_, _, rfl, run_takeDeferred hK, ?_⟩⟩
    have hc5 := (hb1.putObj (.deferred none) hK rfl).cell 0
    refine ⟨.int .i64 8, ?_, .inr ⟨fun hm => hno ?_, rfl⟩, below_put _ hB (by simp at hD; omega) hK⟩
    · simp [results, Try.f41, go_sem, hc5]
    · obtain ⟨m0, m1, m2⟩ := hm
      rcases fin3 k with rfl | rfl | rfl <;> simp only [dimAt, okD] <;> assumption

theorem check_yes {d0 d1 d2 : Int} (w : World) (h : mayD d0 d1 d2) : Calls Try.prog 41 #[A3 d0 d1 d2] w fun e W' => e = .returned (I 0) ∧ Below w.heap.size w W' := by
  refine ((callsIn_wide (n := 3)).1 (check_in Fence.wide 3 trivial trivial trivial rfl (by omega) d0 d1 d2 w)).mono ?_
  rintro e W' ⟨⟨_, rfl⟩ | ⟨hn, _⟩, hB⟩
  · exact ⟨rfl, hB⟩
  · exact absurd h hn

theorem check_no {d0 d1 d2 : Int} (w : World) (h : ¬ mayD d0 d1 d2) : Calls Try.prog 41 #[A3 d0 d1 d2] w fun e W' => e = .returned (I 8) ∧ Below w.heap.size w W' := by
  refine ((callsIn_wide (n := 3)).1 (check_in Fence.wide 3 trivial trivial trivial rfl (by omega) d0 d1 d2 w)).mono ?_
  rintro e W' ⟨⟨hy, _⟩ | ⟨_, rfl⟩, hB⟩
  · exact absurd hy h
  · exact ⟨rfl, hB⟩

theorem axes_calls (d0 d1 d2 : Int) (w : World) :
    Calls Try.prog 39 #[A3 d0 d1 d2] w fun e w' => e = .returned (.func (.func 50) #[] #[.pointer (some ⟨w.heap.size, 0, none⟩)]) ∧ w' = w.alloc (.cells #[I d0, I d1, I d2] 26) :=
  (callsIn_wide (n := 3)).1 (axes_in Fence.wide 3 trivial rfl d0 d1 d2 w)

theorem below_calls (k n : Int) (w : World) :
    Calls Try.prog 36 #[I k, I n] w fun e w' => e = .returned (.bool (belowB k n)) ∧ w' = w := by
  go_enter Try.func36, Try.ntmps36
  go_wp2
  all_goals
    go_ret
    first
      | exact ⟨rfl, rfl⟩
      | (refine ⟨?_, rfl⟩; simp [belowB]; omega)

set_option maxRecDepth 100000 in
set_option maxHeartbeats 2000000 in
theorem many_calls {d0 d1 d2 : Int} (w : World) (hm : mayD d0 d1 d2) :
    Calls Try.prog 42 #[A3 d0 d1 d2] w fun e W' => e = .returned (I (d0 * d1 * d2)) ∧ Below w.heap.size w W' := by
  refine (callsIn_wide (n := 3)).1 ?_
  have h1 : 1 ≤ 3 := by omega
  refine callsIn_of_wp_marks Try.func42 rfl trivial ?_ rfl
  simp only [Try.ntmps42, List.size_toArray, List.length_cons, List.length_nil, Nat.reduceAdd, Nat.reduceSub, Array.replicate_succ, Array.replicate_zero, List.push_toArray, List.append_toArray, List.nil_append, List.cons_append]
  gi_wp2_with (refine ⟨trivial, ?_⟩; gi_at_call 39; refine (callsIn_wide.2 (axes_calls _ _ _ _)).mono ?_; rintro e w' ⟨rfl, rfl⟩)
  have b0 := ((Blk.new w 26 #[I d0, I d1, I d2]).alloc (.cells #[I 1] 3)).alloc (.cells #[I d0, I d1, I d2] 26)
  have b1 := (Blk.new (w.alloc (.cells #[I d0, I d1, I d2] 26)) 3 #[I 1]).alloc (.cells #[I d0, I d1, I d2] 26)
  have b2 := Blk.new ((w.alloc (.cells #[I d0, I d1, I d2] 26)).alloc (.cells #[I 1] 3)) 26 #[I d0, I d1, I d2]
  simp only [World.size_alloc] at b1 b2
  have hB0 : Below w.heap.size w (((w.alloc (.cells #[I d0, I d1, I d2] 26)).alloc (.cells #[I 1] 3)).alloc (.cells #[I d0, I d1, I d2] 26)) := (((Below.refl _ w).alloc (Nat.le_refl _) _).alloc (by simp) _).alloc (by simp; omega) _
  refine wpIn_axes (w.heap.size + 1 + 1) d0 d1 d2 rfl b2 rfl
    (fun pre W => (Blk W w.heap.size 26 #[I d0, I d1, I d2] ∧ Blk W (w.heap.size + 1) 3 #[I (prodL d0 d1 d2 pre)]) ∧ Below w.heap.size w W)
    (fun _ _ _ => False)
    (OwnFrom.and (Own.from (own_and (blk_own _ _ _) (blk_own _ _ _)) _) (ownFrom_below (Nat.le_refl _) (by simp; omega)))
    (fun _ _ _ _ _ hs _ _ => hs)
    ⟨⟨b0, b1⟩, hB0⟩
    (fun x => { tmps := #[A3 d0 d1 d2, .pointer (some ⟨w.heap.size, 0, none⟩), .int .i64 0, .pointer (some ⟨w.heap.size + 1, 0, none⟩), .int .i64 (axI x), A3 d0 d1 d2, .func (.func 50) #[] #[.pointer (some ⟨w.heap.size + 1 + 1, 0, none⟩)], .int .i64 (axI x), .int .i64 (strd d0 d1 x), undef, undef, undef, undef, undef, undef], defers := [] }) ?assign ?body ?done ?stop
  case assign =>
    intro l x W K hK
    gi_wp2
    exact hK
  case body =>
    rintro l pre x W ⟨⟨hb0, hb1⟩, hB⟩ hlen
    have c0 := hb0.cell 0
    have c1 := hb0.cell 1
    have c2 := hb0.cell 2
    have c3 := hb1.cell 0
    have f3 := hb1.frozen 0
    simp at c0 c1 c2 c3
    have hw := Hid.out (prodL_snoc hm pre x hlen)
    have HW : Hid (wrap64 (prodL d0 d1 d2 pre * dimAt d0 d1 d2 x) = prodL d0 d1 d2 (pre ++ [x])) := hw
    clear hw
    have hmx : Try.prog.follows .mixedOrders = true := by kernel_rfl
    have e0 := Ext.cell hb0 0
    have e1 := Ext.cell hb0 1
    have e2 := Ext.cell hb0 2
    have e3 := Ext.cell hb1 0
    simp at e0 e1 e2 e3
    rcases fin3 x with rfl | rfl | rfl
    all_goals
      simp only [axI]
      gi_wp2
      refine wpIn_region_tail 5 (loose_round _ l) hmx (by kernel_rfl) ?_
      simp only [List.take_succ_cons, List.take_zero, List.drop_succ_cons, List.drop_zero]
      repeat (go_big_quiet_step (fail))
      refine wpQuiet_nil ?_
      intro x
      have g3 := Ext.frozen hb1 0 x
      gi_wp2
      refine ⟨(keeps_below x.le).trans (KeepsOthers.setCell _ _ _), trivial, ⟨(hb0.later x.le).other 0 _ (by omega), ?_⟩, (below_ext hB x).setCell (p := ⟨w.heap.size + 1, 0, none⟩) (by simp) _⟩
      rw [← HW.out]
      exact (hb1.later x.le).set 0 _
  case done =>
    rintro D W hD ⟨⟨hb0, hb1⟩, hB⟩ hK
    have c3 := hb1.cell 0
    simp at c3
    gi_wp2
    refine ⟨by simp, .inl ⟨_, _, rfl, run_takeDeferred hK, ?_⟩⟩
    exact ⟨_, results_tmp rfl _ _ _, by simp [prodL, dimAt], below_put _ hB (by simp at hD; omega) hK⟩
  case stop =>
    rintro D c pre W _ _ h _
    exact h.elim

end Go.Proofs.Ytbbddolalglmnaa

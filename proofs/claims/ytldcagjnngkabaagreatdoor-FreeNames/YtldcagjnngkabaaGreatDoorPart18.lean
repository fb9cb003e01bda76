/-
  pos.Check, pos.many, pos.Many, pos.checkNode: what each call answers, for every input; nothing that lay before is turned.
-/
import Derived.Test.YtldcagjnngkabaaGreatDoorPart17
import Derived.Test.YtldcagjnngkabaaGreatDoorPart1
import Derived.Test.YtldcagjnngkabaaGreatDoorPart3
import Derived.Test.YtldcagjnngkabaaGreatDoorPart16
namespace Go.Proofs.YtldcagjnngkabaaGreatDoor
open Go.RowKit Go.Shelf

attribute [local go_sem] Oper.semAt_some ext_const

set_option maxRecDepth 100000 in
set_option maxHeartbeats 2000000 in
theorem check_in (F : Fence) (n : Nat) (hC : F.fn 87) (hA : F.fn 120) (hF : F.fn 153) (hro : F.round = none) (hn : 3 ≤ n) (d0 d1 d2 : Int) (w : World) :
    CallsIn F n Tryz.prog 87 #[A3 d0 d1 d2] w fun e W' => ((mayD d0 d1 d2 ∧ e = .returned (I 0)) ∨ (¬ mayD d0 d1 d2 ∧ e = .returned (I 8))) ∧ Below w.heap.size w W' := by
  have h1 : 1 ≤ n := by omega
  refine callsIn_of_wp_marks Tryz.func87 rfl hC ?_ hro
  simp only [Tryz.ntmps87, List.size_toArray, List.length_cons, List.length_nil, Nat.reduceAdd, Nat.reduceSub, Array.replicate_succ, Array.replicate_zero, List.push_toArray, List.append_toArray, List.nil_append, List.cons_append]
  gi_wp2_with (gi_at_call 120; refine (axes_in F (n - 1) hA hro _ _ _ _).mono ?_; rintro e w' ⟨rfl, rfl⟩)
  have b0 := ((Blk.new w 23 #[I d0, I d1, I d2]).alloc (.cells #[I 0] 31)).alloc (.cells #[I d0, I d1, I d2] 23)
  have b1 := (Blk.new (w.alloc (.cells #[I d0, I d1, I d2] 23)) 31 #[I 0]).alloc (.cells #[I d0, I d1, I d2] 23)
  have b2 := Blk.new ((w.alloc (.cells #[I d0, I d1, I d2] 23)).alloc (.cells #[I 0] 31)) 23 #[I d0, I d1, I d2]
  simp only [World.size_alloc] at b1 b2
  have hB0 : Below w.heap.size w (((w.alloc (.cells #[I d0, I d1, I d2] 23)).alloc (.cells #[I 0] 31)).alloc (.cells #[I d0, I d1, I d2] 23)) := (((Below.refl _ w).alloc (Nat.le_refl _) _).alloc (by simp) _).alloc (by simp; omega) _
  refine wpIn_rangeFunc_ownF hro h1 (gf := 153) (lb := #[.pointer (some ⟨w.heap.size + 1 + 1, 0, none⟩)]) rfl hF (enters_of Tryz.func153 (by kernel_rfl) rfl)
    (axes_stops F (n - 1) hF hro (by omega) (w.heap.size + 1 + 1) d0 d1 d2 _ b2.lt (b2.cell 0) (b2.cell 1) (b2.cell 2)) (fun _ _ => trivial) (fun _ _ _ _ _ _ _ _ => trivial) (Below.refl _ _) (fun _ => rfl)
    (fun pre W => (((∀ k ∈ pre, okD (dimAt d0 d1 d2 k)) ∧ Blk W w.heap.size 23 #[I d0, I d1, I d2]) ∧ Blk W (w.heap.size + 1) 31 #[I 0]) ∧ Below w.heap.size w W)
    (fun c pre W => ((c = .ret ∧ (∃ k ∈ pre, ¬ okD (dimAt d0 d1 d2 k))) ∧ Blk W (w.heap.size + 1) 31 #[I 8]) ∧ Below w.heap.size w W)
    (OwnFrom.and (Own.from (own_and (own_and (own_pure _) (blk_own _ _ _)) (blk_own _ _ _)) _) (ownFrom_below (Nat.le_refl _) (by simp; omega)))
    (fun c => OwnFrom.and (Own.from (own_and (own_pure _) (blk_own _ _ _)) _) (ownFrom_below (Nat.le_refl _) (by simp; omega)))
    ⟨⟨⟨by simp, b0⟩, b1⟩, hB0⟩
    (fun x => { tmps := #[A3 d0 d1 d2, .pointer (some ⟨w.heap.size, 0, none⟩), .pointer (some ⟨w.heap.size + 1, 0, none⟩), .int .i64 (axI x), A3 d0 d1 d2, .func (.func 153) #[] #[.pointer (some ⟨w.heap.size + 1 + 1, 0, none⟩)], .int .i64 (axI x), .int .i64 (strd d0 d1 x), undef, undef, undef, undef, undef, undef, undef, undef, undef, undef], defers := [] }) ?assign ?body ?done ?stop
  case assign =>
    intro l x W K hK
    gi_wp2
    exact hK
  case body =>
    rintro l pre x W ⟨⟨⟨hp, hb0⟩, hb1⟩, hB⟩ _
    have c0 := hb0.cell 0
    have c1 := hb0.cell 1
    have c2 := hb0.cell 2
    have c3 := hb1.cell 0
    have f3 := hb1.frozen 0
    have fin : ∀ x : Fin 3, okD (dimAt d0 d1 d2 x) → ∀ k ∈ pre ++ [x], okD (dimAt d0 d1 d2 k) := fun x hx k hk => by
      rcases List.mem_append.1 hk with h | h
      · exact hp k h
      · simp at h; subst h; exact hx
    simp at c0 c1 c2 c3
    rcases fin3 x with rfl | rfl | rfl
    all_goals
      simp only [axI]
      gi_wp2
    all_goals first
      | exact ⟨KeepsOthers.refl _, trivial, ⟨⟨fin _ (by simp only [dimAt, okD]; omega), hb0⟩, hb1⟩, hB⟩
      | exact ⟨KeepsOthers.setCell _ _ _, ⟨⟨rfl, _, List.mem_append.2 (.inr (List.mem_singleton.2 rfl)), by simp only [dimAt, okD]; omega⟩, hb1.set 0 _⟩, hB.setCell (p := ⟨w.heap.size + 1, 0, none⟩) (by simp) _⟩
  case done =>
    rintro D xs W hD rfl ⟨⟨⟨hp, hb0⟩, hb1⟩, hB⟩ hK
    have c3 := hb1.cell 0
    have f3 := hb1.frozen 0
    simp at c3
    gi_wp2
    have hK' := (KeepsOthers.setCell W ⟨w.heap.size + 1, 0, none⟩ (.int .i64 0)).same D _ hK rfl
    refine ⟨by simp, .inl ⟨_, _, rfl, run_takeDeferred hK', ?_⟩⟩
    have hc5 := ((hb1.set 0 (.int .i64 0)).putObj (.deferred none) hK' rfl).cell 0
    have ho0 := hp 0 (by simp)
    have ho1 := hp 1 (by simp)
    have ho2 := hp 2 (by simp)
    simp only [dimAt, okD] at ho0 ho1 ho2
    refine ⟨.int .i64 0, ?_, .inl ⟨⟨ho0, ho1, ho2⟩, rfl⟩, below_put _ (hB.setCell (p := ⟨w.heap.size + 1, 0, none⟩) (by simp) _) (by simp at hD; omega) hK'⟩
    simp [results, Tryz.f87, go_sem, hc5]
  case stop =>
    rintro D c pre W hD hpre ⟨⟨⟨rfl, k, hk, hno⟩, hb1⟩, hB⟩ hK
    have c3 := hb1.cell 0
    simp at c3
    gi_wp2
    refine ⟨by simp, .inl ⟨_, _, rfl, run_takeDeferred hK, ?_⟩⟩
    have hc5 := (hb1.putObj (.deferred none) hK rfl).cell 0
    refine ⟨.int .i64 8, ?_, .inr ⟨fun hm => hno ?_, rfl⟩, below_put _ hB (by simp at hD; omega) hK⟩
    · simp [results, Tryz.f87, go_sem, hc5]
    · obtain ⟨m0, m1, m2⟩ := hm
      rcases fin3 k with rfl | rfl | rfl <;> simp only [dimAt, okD] <;> assumption

theorem check_yes {d0 d1 d2 : Int} (w : World) (h : mayD d0 d1 d2) : Calls Tryz.prog 87 #[A3 d0 d1 d2] w fun e W' => e = .returned (I 0) ∧ Below w.heap.size w W' := by
  refine ((callsIn_wide (n := 3)).1 (check_in Fence.wide 3 trivial trivial trivial rfl (by omega) d0 d1 d2 w)).mono ?_
  rintro e W' ⟨⟨_, rfl⟩ | ⟨hn, _⟩, hB⟩
  · exact ⟨rfl, hB⟩
  · exact absurd h hn

theorem check_no {d0 d1 d2 : Int} (w : World) (h : ¬ mayD d0 d1 d2) : Calls Tryz.prog 87 #[A3 d0 d1 d2] w fun e W' => e = .returned (I 8) ∧ Below w.heap.size w W' := by
  refine ((callsIn_wide (n := 3)).1 (check_in Fence.wide 3 trivial trivial trivial rfl (by omega) d0 d1 d2 w)).mono ?_
  rintro e W' ⟨⟨hy, _⟩ | ⟨_, rfl⟩, hB⟩
  · exact absurd hy h
  · exact ⟨rfl, hB⟩

theorem axes_calls (d0 d1 d2 : Int) (w : World) :
    Calls Tryz.prog 120 #[A3 d0 d1 d2] w fun e w' => e = .returned (.func (.func 153) #[] #[.pointer (some ⟨w.heap.size, 0, none⟩)]) ∧ w' = w.alloc (.cells #[I d0, I d1, I d2] 23) :=
  (callsIn_wide (n := 3)).1 (axes_in Fence.wide 3 trivial rfl d0 d1 d2 w)

theorem below_calls (k n : Int) (w : World) :
    Calls Tryz.prog 180 #[I k, I n] w fun e w' => e = .returned (.bool (belowB k n)) ∧ w' = w := by
  go_enter Tryz.func180, Tryz.ntmps180
  go_wp2
  all_goals
    go_ret
    first
      | exact ⟨rfl, rfl⟩
      | (refine ⟨?_, rfl⟩; simp [belowB]; omega)

set_option maxRecDepth 100000 in
set_option maxHeartbeats 2000000 in
theorem many_calls {d0 d1 d2 : Int} (w : World) (hm : mayD d0 d1 d2) :
    Calls Tryz.prog 88 #[A3 d0 d1 d2] w fun e W' => e = .returned (I (d0 * d1 * d2)) ∧ Below w.heap.size w W' := by
  refine (callsIn_wide (n := 3)).1 ?_
  have h1 : 1 ≤ 3 := by omega
  refine callsIn_of_wp_marks Tryz.func88 rfl trivial ?_ rfl
  simp only [Tryz.ntmps88, List.size_toArray, List.length_cons, List.length_nil, Nat.reduceAdd, Nat.reduceSub, Array.replicate_succ, Array.replicate_zero, List.push_toArray, List.append_toArray, List.nil_append, List.cons_append]
  gi_wp2_with (refine ⟨trivial, ?_⟩; gi_at_call 120; refine (callsIn_wide.2 (axes_calls _ _ _ _)).mono ?_; rintro e w' ⟨rfl, rfl⟩)
  have b0 := ((Blk.new w 23 #[I d0, I d1, I d2]).alloc (.cells #[I 1] 3)).alloc (.cells #[I d0, I d1, I d2] 23)
  have b1 := (Blk.new (w.alloc (.cells #[I d0, I d1, I d2] 23)) 3 #[I 1]).alloc (.cells #[I d0, I d1, I d2] 23)
  have b2 := Blk.new ((w.alloc (.cells #[I d0, I d1, I d2] 23)).alloc (.cells #[I 1] 3)) 23 #[I d0, I d1, I d2]
  simp only [World.size_alloc] at b1 b2
  have hB0 : Below w.heap.size w (((w.alloc (.cells #[I d0, I d1, I d2] 23)).alloc (.cells #[I 1] 3)).alloc (.cells #[I d0, I d1, I d2] 23)) := (((Below.refl _ w).alloc (Nat.le_refl _) _).alloc (by simp) _).alloc (by simp; omega) _
  refine wpIn_axes (w.heap.size + 1 + 1) d0 d1 d2 rfl b2 rfl
    (fun pre W => (Blk W w.heap.size 23 #[I d0, I d1, I d2] ∧ Blk W (w.heap.size + 1) 3 #[I (prodL d0 d1 d2 pre)]) ∧ Below w.heap.size w W)
    (fun _ _ _ => False)
    (OwnFrom.and (Own.from (own_and (blk_own _ _ _) (blk_own _ _ _)) _) (ownFrom_below (Nat.le_refl _) (by simp; omega)))
    (fun _ _ _ _ _ hs _ _ => hs)
    ⟨⟨b0, b1⟩, hB0⟩
    (fun x => { tmps := #[A3 d0 d1 d2, .pointer (some ⟨w.heap.size, 0, none⟩), .int .i64 0, .pointer (some ⟨w.heap.size + 1, 0, none⟩), .int .i64 (axI x), A3 d0 d1 d2, .func (.func 153) #[] #[.pointer (some ⟨w.heap.size + 1 + 1, 0, none⟩)], .int .i64 (axI x), .int .i64 (strd d0 d1 x), undef, undef, undef, undef, undef, undef], defers := [] }) ?assign ?body ?done ?stop
  case assign =>
    intro l x W K hK
    gi_wp2
    exact hK
  case body =>
    rintro l pre x W ⟨⟨hb0, hb1⟩, hB⟩ hlen
    have c0 := hb0.cell 0
    have c1 := hb0.cell 1
    have c2 := hb0.cell 2
    have c3 := hb1.cell 0
    have f3 := hb1.frozen 0
    simp at c0 c1 c2 c3
    have hw := Hid.out (prodL_snoc hm pre x hlen)
    have HW : Hid (wrap64 (prodL d0 d1 d2 pre * dimAt d0 d1 d2 x) = prodL d0 d1 d2 (pre ++ [x])) := hw
    clear hw
    have hmx : Tryz.prog.follows .mixedOrders = true := by kernel_rfl
    have e0 := Ext.cell hb0 0
    have e1 := Ext.cell hb0 1
    have e2 := Ext.cell hb0 2
    have e3 := Ext.cell hb1 0
    simp at e0 e1 e2 e3
    rcases fin3 x with rfl | rfl | rfl
    all_goals
      simp only [axI]
      gi_wp2
      refine wpIn_region_tail 5 (loose_round _ l) hmx (by kernel_rfl) ?_
      simp only [List.take_succ_cons, List.take_zero, List.drop_succ_cons, List.drop_zero]
      repeat (go_big_quiet_step (fail))
      refine wpQuiet_nil ?_
      intro x
      have g3 := Ext.frozen hb1 0 x
      gi_wp2
      refine ⟨(keeps_below x.le).trans (KeepsOthers.setCell _ _ _), trivial, ⟨(hb0.later x.le).other 0 _ (by omega), ?_⟩, (below_ext hB x).setCell (p := ⟨w.heap.size + 1, 0, none⟩) (by simp) _⟩
      rw [← HW.out]
      exact (hb1.later x.le).set 0 _
  case done =>
    rintro D W hD ⟨⟨hb0, hb1⟩, hB⟩ hK
    have c3 := hb1.cell 0
    simp at c3
    gi_wp2
    refine ⟨by simp, .inl ⟨_, _, rfl, run_takeDeferred hK, ?_⟩⟩
    exact ⟨_, results_tmp rfl _ _ _, by simp [prodL, dimAt], below_put _ hB (by simp at hD; omega) hK⟩
  case stop =>
    rintro D c pre W _ _ h _
    exact h.elim

end Go.Proofs.YtldcagjnngkabaaGreatDoor

/-
  pos.Many, pos.checkNode: what each call answers, for every input; nothing that lay before is turned.
-/
namespace Go.Proofs.YtldcagjnngkabaaGreatDoor
open Go.RowKit Go.Shelf

attribute [local go_sem] Oper.semAt_some ext_const

set_option maxHeartbeats 400000 in
theorem many_no {d0 d1 d2 : Int} (w : World) (hm : ¬ mayD d0 d1 d2) :
    Calls Tryz.prog 48 #[A3 d0 d1 d2] w fun e W' => e = .returned (.tuple #[I 0, I 8]) ∧ Below w.heap.size w W' := by
  go_enter Tryz.func48, Tryz.ntmps48
  go_wp2_with fail
  refine (check_no _ hm).mono ?_
  rintro e w1 ⟨rfl, hB⟩
  go_wp2
  go_ret2
  exact ⟨rfl, ((Below.refl _ w).alloc (Nat.le_refl _) _).trans (hB.mono (by simp))⟩

set_option maxHeartbeats 400000 in
theorem many_yes {d0 d1 d2 : Int} (w : World) (hm : mayD d0 d1 d2) :
    Calls Tryz.prog 48 #[A3 d0 d1 d2] w fun e W' => e = .returned (.tuple #[I (d0 * d1 * d2), I 0]) ∧ Below w.heap.size w W' := by
  go_enter Tryz.func48, Tryz.ntmps48
  go_wp2_with fail
  refine (check_yes _ hm).mono ?_
  rintro e w1 ⟨rfl, hB⟩
  have b0 := (Blk.new w 23 #[I d0, I d1, I d2]).later hB
  have c0 := b0.cell 0
  have c1 := b0.cell 1
  have c2 := b0.cell 2
  simp at c0 c1 c2
  go_wp2_with fail
  refine (many_calls _ hm).mono ?_
  rintro e w2 ⟨rfl, hB2⟩
  go_wp2
  go_ret2
  exact ⟨rfl, (((Below.refl _ w).alloc (Nat.le_refl _) _).trans (hB.mono (by simp))).trans (hB2.mono (by have := hB.size; simp at this; omega))⟩

set_option maxHeartbeats 400000 in
theorem node_bad {d0 d1 d2 : Int} (m : Int) (w : World) (hm : ¬ mayD d0 d1 d2) :
    Calls Tryz.prog 211 #[A3 d0 d1 d2, I m] w fun e W' => e = .returned (I 8) ∧ Below w.heap.size w W' := by
  go_enter Tryz.func211, Tryz.ntmps211
  go_wp2_with fail
  refine (many_no _ hm).mono ?_
  rintro e w1 ⟨rfl, hB⟩
  go_wp2
  go_ret
  exact ⟨rfl, ((Below.refl _ w).alloc (Nat.le_refl _) _).trans (hB.mono (by simp))⟩

set_option maxHeartbeats 400000 in
theorem node_no {d0 d1 d2 : Int} (m : Int) (w : World) (hm : mayD d0 d1 d2) (hn : belowB m (d0 * d1 * d2) = false) :
    Calls Tryz.prog 211 #[A3 d0 d1 d2, I m] w fun e W' => e = .returned (I 2) ∧ Below w.heap.size w W' := by
  go_enter Tryz.func211, Tryz.ntmps211
  go_wp2_with fail
  refine (many_yes _ hm).mono ?_
  rintro e w1 ⟨rfl, hB⟩
  go_wp2_with fail
  refine (below_calls _ _ _).mono ?_
  rintro e w2 ⟨rfl, rfl⟩
  go_wp2
  go_ret
  exact ⟨rfl, ((Below.refl _ w).alloc (Nat.le_refl _) _).trans (hB.mono (by simp))⟩

set_option maxHeartbeats 400000 in
theorem node_yes {d0 d1 d2 : Int} (m : Int) (w : World) (hm : mayD d0 d1 d2) (hn : belowB m (d0 * d1 * d2) = true) :
    Calls Tryz.prog 211 #[A3 d0 d1 d2, I m] w fun e W' => e = .returned (I 0) ∧ Below w.heap.size w W' := by
  go_enter Tryz.func211, Tryz.ntmps211
  go_wp2_with fail
  refine (many_yes _ hm).mono ?_
  rintro e w1 ⟨rfl, hB⟩
  go_wp2_with fail
  refine (below_calls _ _ _).mono ?_
  rintro e w2 ⟨rfl, rfl⟩
  go_wp2
  go_ret
  exact ⟨rfl, ((Below.refl _ w).alloc (Nat.le_refl _) _).trans (hB.mono (by simp))⟩

end Go.Proofs.YtldcagjnngkabaaGreatDoor

/-
  cals.Check: whether a machine's calendars may be.
-/
namespace Go.Proofs.YtldcagjnngkabaaGreatDoor
open Go Go.RowKit Go.Shelf

attribute [local go_sem] Oper.semAt_some ext_const

theorem ccheckc_calls {xs : List Slt} {v : Value} {r : Bool} (hr : mayCB xs = r) (w : World) (hS : Ss w v xs) : Calls Tryz.prog 57 #[v] w fun e W' => e = .returned (.bool (!r)) ∧ Below w.heap.size w W' := by
  have H : Hid (∀ w, Ss w v xs → Calls Tryz.prog 58 #[v] w fun e W' => e = .returned (I (if r then 0 else 8)) ∧ Below w.heap.size w W') := fun w h => by
    have := ccheck_calls w h
    rwa [errC, hr] at this
  have HS : Hid (Ss w v xs) := hS
  clear hr hS
  cases r
  all_goals
    go_enter Tryz.func57, Tryz.ntmps57
    go_wp2_with fail
    refine (H.out _ HS.out).mono ?_
    rintro e w1 ⟨rfl, hT⟩
    go_wp2
    go_ret
    exact ⟨rfl, hT⟩

/-- The number of the first calendar that may not be. -/
def firstN (cs : List (List Slt)) : Int := match cs.findIdx? fun c => !mayCB c with | some i => i | none => -1
theorem firstN_at {cs : List (List Slt)} {k : Nat} (hk : k < cs.length) (h0 : ∀ j, j < k → mayCB (cs.getD j []) = true) (h1 : mayCB (cs.getD k []) = false) : firstN cs = k := by
  unfold firstN
  rw [show (cs.findIdx? fun c => !mayCB c) = some k from ?_]
  rw [List.findIdx?_eq_some_iff_getElem]
  refine ⟨hk, ?_, fun j hj => ?_⟩
  · simpa [hk] using h1
  · have := h0 j hj
    simpa [show j < cs.length by omega] using this
theorem firstN_none {cs : List (List Slt)} (h0 : ∀ j, j < cs.length → mayCB (cs.getD j []) = true) : firstN cs = -1 := by
  unfold firstN
  rw [show (cs.findIdx? fun c => !mayCB c) = none from ?_]
  rw [List.findIdx?_eq_none_iff]
  intro c hc
  obtain ⟨j, hj, rfl⟩ := List.mem_iff_getElem.1 hc
  have := h0 j hj
  simpa [hj] using this
theorem firstN_any (cs : List (List Slt)) : decide (0 ≤ firstN cs) = !maysC cs := by
  cases e : maysC cs
  · unfold firstN
    cases h : cs.findIdx? fun c => !mayCB c
    · rw [List.findIdx?_eq_none_iff] at h
      have : maysC cs = true := List.all_eq_true.2 fun c hc => by have := h c hc; simpa using this
      rw [this] at e; cases e
    · simp
  · rw [firstN_none fun j _ => mayCB_iff.2 (maysC_may e j)]
    rfl

set_option maxRecDepth 100000 in
set_option maxHeartbeats 4000000 in
theorem yindex_calls {cs : List (List Slt)} {v : Value} (w : World) (hS : Yl w v cs) (hn : cs.length ≤ 100000) :
    Calls Tryz.prog 100 #[v, .func (.func 57) #[] #[]] w fun e W' => e = .returned (I (firstN cs)) ∧ Below w.heap.size w W' := by
  obtain ⟨ao, cap, rfl, hS⟩ := hS.form
  have HS : Hid (Yl w (.slice ao cs.length cap) cs) := hS
  have H1 : Hid (∀ k : Nat, k < cs.length → (∀ j, j < k → mayCB (cs.getD j []) = true) → mayCB (cs.getD k []) = false → firstN cs = k) := fun k => firstN_at
  have H2 : Hid ((∀ j, j < cs.length → mayCB (cs.getD j []) = true) → firstN cs = -1) := firstN_none
  generalize firstN cs = ans at H1 H2 ⊢
  clear hS
  go_enter Tryz.func100, Tryz.ntmps100
  go_wp2
  go_loopw [8] (fun i wr => ∃ k : Nat, k ≤ cs.length ∧ i = .int .i64 k ∧ Hid (∀ j, j < k → mayCB (cs.getD j []) = true) ∧ Below w.heap.size w wr) (fun i _ => cs.length - (RowKit.intOf i).toNat)
  case atStart => exact ⟨0, by omega, rfl, fun j hj => by omega, Below.refl _ _⟩
  case round =>
    obtain ⟨k, hk, rfl, H0, hT⟩ := hrel
    by_cases hlt : (k : Int) < (cs.length : Int)
    · have hk' : k < cs.length := by omega
      obtain ⟨g, off, bo, m, c, rfl, hg, hc, hs⟩ := (HS.out.later hT).get hk'
      have HC : Hid (∀ r, mayCB (cs.getD k []) = r → Calls Tryz.prog 57 #[.slice bo m c] wr fun e W' => e = .returned (.bool (!r)) ∧ Below wr.heap.size wr W') := fun r hr => ccheckc_calls hr wr hs
      clear hs
      cases hm : mayCB (cs.getD k [])
      · have E : ans = k := H1.out k hk' H0.out hm
        subst E
        have HC1 : Hid (Calls Tryz.prog 57 #[.slice bo m c] wr fun e W' => e = .returned (.bool (!false)) ∧ Below wr.heap.size wr W') := HC.out _ hm
        clear hm HC
        go_wp2_with fail
        refine HC1.out.mono ?_
        rintro e w1 ⟨rfl, hB1⟩
        go_wp2
        go_ret
        exact ⟨rfl, then_below hT hB1⟩
      · have HJ : Hid (∀ j, j < k + 1 → mayCB (cs.getD j []) = true) := fun j hj => by
          rcases Nat.lt_succ_iff_lt_or_eq.1 hj with h | rfl
          · exact H0.out j h
          · exact hm
        have HC1 : Hid (Calls Tryz.prog 57 #[.slice bo m c] wr fun e W' => e = .returned (.bool (!true)) ∧ Below wr.heap.size wr W') := HC.out _ hm
        clear hm HC
        go_wp2_with fail
        refine HC1.out.mono ?_
        rintro e w1 ⟨rfl, hB1⟩
        go_wp2
        go_roundw
        case rel => exact ⟨k + 1, by omega, by go_num, HJ, then_below hT hB1⟩
        case measure => simp [RowKit.intOf]; omega
    · have E : ans = -1 := H2.out fun j hj => H0.out j (by omega)
      subst E
      go_wp2
      go_ret
      exact ⟨rfl, hT⟩

theorem ycontains_calls {cs : List (List Slt)} {v : Value} {r : Bool} (hr : maysC cs = r) (w : World) (hS : Yl w v cs) (hn : cs.length ≤ 100000) :
    Calls Tryz.prog 59 #[v, .func (.func 57) #[] #[]] w fun e W' => e = .returned (.bool (!r)) ∧ Below w.heap.size w W' := by
  have E := firstN_any cs
  rw [hr] at E
  rw [← E]
  have H : Hid (Calls Tryz.prog 100 #[v, .func (.func 57) #[] #[]] w fun e W' => e = .returned (I (firstN cs)) ∧ Below w.heap.size w W') := yindex_calls w hS hn
  clear hS E hr
  generalize firstN cs = q at *
  by_cases hq : 0 ≤ q
  · rw [decide_eq_true hq]
    go_enter Tryz.func59, Tryz.ntmps59
    go_wp2_with fail
    refine H.out.mono ?_
    rintro e w1 ⟨rfl, hT⟩
    go_wp2
    go_ret
    exact ⟨rfl, hT⟩
  · rw [decide_eq_false hq]
    have hq : decide (0 ≤ q) = false := decide_eq_false hq
    go_enter Tryz.func59, Tryz.ntmps59
    go_wp2_with fail
    refine H.out.mono ?_
    rintro e w1 ⟨rfl, hT⟩
    go_wp2
    go_ret
    exact ⟨rfl, hT⟩

/-- What a later world reads of a machine's calendars that a call has. -/
theorem Blk.yard {W W' : World} {B : Nat} {t : TypeId} {a b c : Int} {n l : Value} (h : Blk W B t (K5 a b c n l)) (hb : Below W.heap.size W W') :
    W'.cell? ⟨B, 0, none⟩ = some (.int .i64 a) ∧ W'.cell? ⟨B, 1, none⟩ = some (.int .i64 b) ∧ W'.cell? ⟨B, 2, none⟩ = some (.int .i64 c) ∧ W'.cell? ⟨B, 3, none⟩ = some n ∧ W'.cell? ⟨B, 4, none⟩ = some l ∧ B < W'.heap.size := (h.later hb).five

set_option maxHeartbeats 4000000 in
theorem ycheck_yes {a b c : Int} {n l : Value} {ns ls : List (List Slt)} (w : World) (hN : Yl w n ns) (hL : Yl w l ls) (h : mayY a b c ns ls) : Calls Tryz.prog 28 #[Y5 a b c n l] w fun e W' => e = .returned (I 0) ∧ Below w.heap.size w W' := by
  obtain ⟨W, hW, hB, hK⟩ := one_start w (K5 a b c n l) 26
  have HW : Hid (w.alloc (.cells (K5 a b c n l) 26) = W) := hW
  have hbd := h.bd
  have HM : Hid (∀ w, Calls Tryz.prog 48 #[A3 a b c] w fun e W' => e = .returned (.tuple #[I ns.length, I 0]) ∧ Below w.heap.size w W') := fun w => by rw [h.2.1]; exact many_yes w h.1
  have HN : Hid (∀ w1, Below W.heap.size W w1 → Calls Tryz.prog 59 #[n, .func (.func 57) #[] #[]] w1 fun e W' => e = .returned (.bool false) ∧ Below w1.heap.size w1 W') := fun w1 hb => ycontains_calls (r := true) h.2.2.2.1 w1 (hN.later (then_below hB hb)) (by omega)
  have HL : Hid (∀ w1, Below W.heap.size W w1 → Calls Tryz.prog 59 #[l, .func (.func 57) #[] #[]] w1 fun e W' => e = .returned (.bool false) ∧ Below w1.heap.size w1 W') := fun w1 hb => ycontains_calls (r := true) h.2.2.2.2 w1 (hL.later (then_below hB hb)) (by omega)
  obtain ⟨an, cn, rfl, _⟩ := hN.form
  obtain ⟨al, cl, rfl, _⟩ := hL.form
  have hmul : wrap64 (3 * (ns.length : Int)) = (ls.length : Int) := by rw [wrap_in _ (by omega)]; omega
  clear hW h hN hL hbd
  generalize ns.length = nn at *
  generalize ls.length = ll at *
  obtain ⟨p0, p1, p2, p3, p4, hz⟩ := hK.five
  go_enter Tryz.func28, Tryz.ntmps28
  go_wp2_with fail
  rw [HW.out]
  go_wp2_with fail
  refine (HM.out _).mono ?_
  rintro e w1 ⟨rfl, hT⟩
  clear p0 p1 p2 p3 p4 hz
  obtain ⟨p0, p1, p2, p3, p4, hz⟩ := hK.yard hT
  go_wp2_with fail
  refine (HN.out _ hT).mono ?_
  rintro e w2 ⟨rfl, hB2⟩
  have hT2 := then_below hT hB2
  clear p0 p1 p2 p3 p4 hz
  obtain ⟨p0, p1, p2, p3, p4, hz⟩ := hK.yard hT2
  go_wp2_with fail
  refine (HL.out _ hT2).mono ?_
  rintro e w3 ⟨rfl, hB3⟩
  go_wp2
  go_ret
  exact ⟨rfl, then_below hB (then_below hT2 hB3)⟩

set_option maxHeartbeats 4000000 in
theorem ycheck_bad {a b c : Int} {n l : Value} (w : World) (h : ¬ mayD a b c) : Calls Tryz.prog 28 #[Y5 a b c n l] w fun e W' => e = .returned (I 8) ∧ Below w.heap.size w W' := by
  obtain ⟨W, hW, hB, hK⟩ := one_start w (K5 a b c n l) 26
  have HW : Hid (w.alloc (.cells (K5 a b c n l) 26) = W) := hW
  have HM : Hid (∀ w, Calls Tryz.prog 48 #[A3 a b c] w fun e W' => e = .returned (.tuple #[I 0, I 8]) ∧ Below w.heap.size w W') := fun w => many_no w h
  clear hW h
  obtain ⟨p0, p1, p2, p3, p4, hz⟩ := hK.five
  go_enter Tryz.func28, Tryz.ntmps28
  go_wp2_with fail
  rw [HW.out]
  go_wp2_with fail
  refine (HM.out _).mono ?_
  rintro e w1 ⟨rfl, hT⟩
  go_wp2
  go_ret
  exact ⟨rfl, then_below hB hT⟩

set_option maxHeartbeats 4000000 in
theorem ycheck_len {a b c : Int} {n l : Value} {ns ls : List (List Slt)} (w : World) (hN : Yl w n ns) (hL : Yl w l ls) (h : mayD a b c) (hl : ¬ ((ns.length : Int) = a * b * c ∧ (ls.length : Int) = 3 * (a * b * c))) : Calls Tryz.prog 28 #[Y5 a b c n l] w fun e W' => e = .returned (I 8) ∧ Below w.heap.size w W' := by
  obtain ⟨W, hW, hB, hK⟩ := one_start w (K5 a b c n l) 26
  have HW : Hid (w.alloc (.cells (K5 a b c n l) 26) = W) := hW
  have HM : Hid (∀ w, Calls Tryz.prog 48 #[A3 a b c] w fun e W' => e = .returned (.tuple #[I (a * b * c), I 0]) ∧ Below w.heap.size w W') := fun w => many_yes w h
  obtain ⟨an, cn, rfl, _⟩ := hN.form
  obtain ⟨al, cl, rfl, _⟩ := hL.form
  have hbd := N_bd h
  have hmul : wrap64 (3 * (a * b * c)) = 3 * (a * b * c) := wrap_in _ (by omega)
  generalize a * b * c = N at *
  clear hW h hN hL hbd
  generalize ns.length = nn at *
  generalize ls.length = ll at *
  obtain ⟨p0, p1, p2, p3, p4, hz⟩ := hK.five
  by_cases h1 : (nn : Int) = N
  · have h2 : ((ll : Int) != 3 * N) = true := by simp; omega
    have h1 : ((nn : Int) != N) = false := by simp [h1]
    clear hl
    go_enter Tryz.func28, Tryz.ntmps28
    go_wp2_with fail
    rw [HW.out]
    go_wp2_with fail
    refine (HM.out _).mono ?_
    rintro e w1 ⟨rfl, hT⟩
    clear p0 p1 p2 p3 p4 hz
    obtain ⟨p0, p1, p2, p3, p4, hz⟩ := hK.yard hT
    go_wp2
    go_ret
    exact ⟨rfl, then_below hB hT⟩
  · have h1 : ((nn : Int) != N) = true := by simp [h1]
    clear hl
    go_enter Tryz.func28, Tryz.ntmps28
    go_wp2_with fail
    rw [HW.out]
    go_wp2_with fail
    refine (HM.out _).mono ?_
    rintro e w1 ⟨rfl, hT⟩
    clear p0 p1 p2 p3 p4 hz
    obtain ⟨p0, p1, p2, p3, p4, hz⟩ := hK.yard hT
    go_wp2
    go_ret
    exact ⟨rfl, then_below hB hT⟩

set_option maxHeartbeats 4000000 in
theorem ycheck_cal {a b c : Int} {n l : Value} {ns ls : List (List Slt)} (w : World) (hN : Yl w n ns) (hL : Yl w l ls) (h : mayD a b c) (h1 : (ns.length : Int) = a * b * c) (h2 : (ls.length : Int) = 3 * (a * b * c)) (hm : (maysC ns && maysC ls) = false) : Calls Tryz.prog 28 #[Y5 a b c n l] w fun e W' => e = .returned (I 8) ∧ Below w.heap.size w W' := by
  obtain ⟨W, hW, hB, hK⟩ := one_start w (K5 a b c n l) 26
  have HW : Hid (w.alloc (.cells (K5 a b c n l) 26) = W) := hW
  have hbd := N_bd h
  have HM : Hid (∀ w, Calls Tryz.prog 48 #[A3 a b c] w fun e W' => e = .returned (.tuple #[I ns.length, I 0]) ∧ Below w.heap.size w W') := fun w => by rw [h1]; exact many_yes w h
  generalize a * b * c = N at *
  have HN : Hid (∀ r, maysC ns = r → ∀ w1, Below W.heap.size W w1 → Calls Tryz.prog 59 #[n, .func (.func 57) #[] #[]] w1 fun e W' => e = .returned (.bool (!r)) ∧ Below w1.heap.size w1 W') := fun r hr w1 hb => ycontains_calls hr w1 (hN.later (then_below hB hb)) (by omega)
  have HL : Hid (∀ r, maysC ls = r → ∀ w1, Below W.heap.size W w1 → Calls Tryz.prog 59 #[l, .func (.func 57) #[] #[]] w1 fun e W' => e = .returned (.bool (!r)) ∧ Below w1.heap.size w1 W') := fun r hr w1 hb => ycontains_calls hr w1 (hL.later (then_below hB hb)) (by omega)
  obtain ⟨an, cn, rfl, _⟩ := hN.form
  obtain ⟨al, cl, rfl, _⟩ := hL.form
  have hmul : wrap64 (3 * (ns.length : Int)) = (ls.length : Int) := by rw [wrap_in _ (by omega)]; omega
  clear hW h hN hL hbd h1 h2
  cases e1 : maysC ns
  · have HN1 : Hid (∀ w1, Below W.heap.size W w1 → Calls Tryz.prog 59 #[.slice an ns.length cn, .func (.func 57) #[] #[]] w1 fun e W' => e = .returned (.bool true) ∧ Below w1.heap.size w1 W') := fun w1 hb => HN.out false e1 w1 hb
    clear e1 hm HN HL
    generalize ns.length = nn at *
    generalize ls.length = ll at *
    obtain ⟨p0, p1, p2, p3, p4, hz⟩ := hK.five
    go_enter Tryz.func28, Tryz.ntmps28
    go_wp2_with fail
    rw [HW.out]
    go_wp2_with fail
    refine (HM.out _).mono ?_
    rintro e w1 ⟨rfl, hT⟩
    clear p0 p1 p2 p3 p4 hz
    obtain ⟨p0, p1, p2, p3, p4, hz⟩ := hK.yard hT
    go_wp2_with fail
    refine (HN1.out _ hT).mono ?_
    rintro e w2 ⟨rfl, hB2⟩
    go_wp2
    go_ret
    exact ⟨rfl, then_below hB (then_below hT hB2)⟩
  · have HN1 : Hid (∀ w1, Below W.heap.size W w1 → Calls Tryz.prog 59 #[.slice an ns.length cn, .func (.func 57) #[] #[]] w1 fun e W' => e = .returned (.bool false) ∧ Below w1.heap.size w1 W') := fun w1 hb => HN.out true e1 w1 hb
    have e2 : maysC ls = false := by rw [e1] at hm; exact hm
    have HL1 : Hid (∀ w1, Below W.heap.size W w1 → Calls Tryz.prog 59 #[.slice al ls.length cl, .func (.func 57) #[] #[]] w1 fun e W' => e = .returned (.bool true) ∧ Below w1.heap.size w1 W') := fun w1 hb => HL.out false e2 w1 hb
    clear e1 e2 hm HN HL
    generalize ns.length = nn at *
    generalize ls.length = ll at *
    obtain ⟨p0, p1, p2, p3, p4, hz⟩ := hK.five
    go_enter Tryz.func28, Tryz.ntmps28
    go_wp2_with fail
    rw [HW.out]
    go_wp2_with fail
    refine (HM.out _).mono ?_
    rintro e w1 ⟨rfl, hT⟩
    clear p0 p1 p2 p3 p4 hz
    obtain ⟨p0, p1, p2, p3, p4, hz⟩ := hK.yard hT
    go_wp2_with fail
    refine (HN1.out _ hT).mono ?_
    rintro e w2 ⟨rfl, hB2⟩
    have hT2 := then_below hT hB2
    clear p0 p1 p2 p3 p4 hz
    obtain ⟨p0, p1, p2, p3, p4, hz⟩ := hK.yard hT2
    go_wp2_with fail
    refine (HL1.out _ hT2).mono ?_
    rintro e w3 ⟨rfl, hB3⟩
    go_wp2
    go_ret
    exact ⟨rfl, then_below hB (then_below hT2 hB3)⟩

/-- cals.Check, whatever it is handed. -/
theorem ycheck_calls {a b c : Int} {n l : Value} {ns ls : List (List Slt)} (w : World) (hN : Yl w n ns) (hL : Yl w l ls) : Calls Tryz.prog 28 #[Y5 a b c n l] w fun e W' => e = .returned (I (errY a b c ns ls)) ∧ Below w.heap.size w W' := by
  by_cases h : mayY a b c ns ls
  · rw [errY_ok h]; exact ycheck_yes w hN hL h
  · rw [errY_no h]
    by_cases hd : mayD a b c
    · by_cases hl : (ns.length : Int) = a * b * c ∧ (ls.length : Int) = 3 * (a * b * c)
      · refine ycheck_cal w hN hL hd hl.1 hl.2 ?_
        cases e1 : maysC ns
        · rfl
        · cases e2 : maysC ls
          · rfl
          · exact absurd ⟨hd, hl.1, hl.2, e1, e2⟩ h
      · exact ycheck_len w hN hL hd hl
    · exact ycheck_bad w hd

end Go.Proofs.YtldcagjnngkabaaGreatDoor

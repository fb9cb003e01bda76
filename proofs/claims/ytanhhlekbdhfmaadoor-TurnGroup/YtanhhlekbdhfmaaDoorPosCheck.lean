/-
  pos.Check, pos.many, pos.Many, pos.checkNode: what each call answers, for every input; nothing that lay before is turned.
-/
import Derived.Test.YtanhhlekbdhfmaaDoorPosAxes
import Derived.Test.YtanhhlekbdhfmaaDoorPosMath
import Derived.Test.YtanhhlekbdhfmaaDoorDraw
namespace Go.Proofs.YtanhhlekbdhfmaaDoor
open Go.RowKit Go.Shelf

attribute [local go_sem] Oper.semAt_some ext_const

set_option maxRecDepth 100000 in
set_option maxHeartbeats 2000000 in
theorem check_in (F : Fence) (n : Nat) (hC : F.fn 22) (hA : F.fn 33) (hF : F.fn 47) (hro : F.round = none) (hn : 3 ≤ n) (d0 d1 d2 : Int) (w : World) :
    CallsIn F n Tryd.prog 22 #[A3 d0 d1 d2] w fun e W' => ((mayD d0 d1 d2 ∧ e = .returned (I 0)) ∨ (¬ mayD d0 d1 d2 ∧ e = .returned (I 8))) ∧ Below w.heap.size w W' := by
  have h1 : 1 ≤ n := by omega
  refine callsIn_of_wp_marks Tryd.func22 rfl hC ?_ hro
  simp only [Tryd.ntmps22, List.size_toArray, List.length_cons, List.length_nil, Nat.reduceAdd, Nat.reduceSub, Array.replicate_succ, Array.replicate_zero, List.push_toArray, List.append_toArray, List.nil_append, List.cons_append]
  gi_wp2_with (gi_at_call 33; refine (axes_in F (n - 1) hA hro _ _ _ _).mono ?_; rintro e w' ⟨rfl, rfl⟩)
  have b0 := ((Blk.new w 33 #[I d0, I d1, I d2]).alloc (.cells #[I 0] 23)).alloc (.cells #[I d0, I d1, I d2] 33)
  have b1 := (Blk.new (w.alloc (.cells #[I d0, I d1, I d2] 33)) 23 #[I 0]).alloc (.cells #[I d0, I d1, I d2] 33)
  have b2 := Blk.new ((w.alloc (.cells #[I d0, I d1, I d2] 33)).alloc (.cells #[I 0] 23)) 33 #[I d0, I d1, I d2]
  simp only [World.size_alloc] at b1 b2
  have hB0 : Below w.heap.size w (((w.alloc (.cells #[I d0, I d1, I d2] 33)).alloc (.cells #[I 0] 23)).alloc (.cells #[I d0, I d1, I d2] 33)) := (((Below.refl _ w).alloc (Nat.le_refl _) _).alloc (by simp) _).alloc (by simp; omega) _
  refine wpIn_rangeFunc_ownF hro h1 (gf := 47) (lb := #[.pointer (some ⟨w.heap.size + 1 + 1, 0, none⟩)]) rfl hF (enters_of Tryd.func47 (by kernel_rfl) rfl)
    (axes_stops F (n - 1) hF hro (by omega) (w.heap.size + 1 + 1) d0 d1 d2 _ b2.lt (b2.cell 0) (b2.cell 1) (b2.cell 2)) (fun _ _ => trivial) (fun _ _ _ _ _ _ _ _ => trivial) (Below.refl _ _) (fun _ => rfl)
    (fun pre W => (((∀ k ∈ pre, okD (dimAt d0 d1 d2 k)) ∧ Blk W w.heap.size 33 #[I d0, I d1, I d2]) ∧ Blk W (w.heap.size + 1) 23 #[I 0]) ∧ Below w.heap.size w W)
    (fun c pre W => ((c = .ret ∧ (∃ k ∈ pre, ¬ okD (dimAt d0 d1 d2 k))) ∧ Blk W (w.heap.size + 1) 23 #[I 8]) ∧ Below w.heap.size w W)
    (OwnFrom.and (Own.from (own_and (own_and (own_pure _) (blk_own _ _ _)) (blk_own _ _ _)) _) (ownFrom_below (Nat.le_refl _) (by simp; omega)))
    (fun c => OwnFrom.and (Own.from (own_and (own_pure _) (blk_own _ _ _)) _) (ownFrom_below (Nat.le_refl _) (by simp; omega)))
    ⟨⟨⟨by simp, b0⟩, b1⟩, hB0⟩
    (fun x => { tmps := #[A3 d0 d1 d2, .pointer (some ⟨w.heap.size, 0, none⟩), .pointer (some ⟨w.heap.size + 1, 0, none⟩), .int .i64 (axI x), A3 d0 d1 d2, .func (.func 47) #[] #[.pointer (some ⟨w.heap.size + 1 + 1, 0, none⟩)], .int .i64 (axI x), .int .i64 (strd d0 d1 x), undef, undef, undef, undef, undef, undef, undef, undef, undef, undef], defers := [] }) ?assign ?body ?done ?stop
  case assign =>
    intro l x W K hK
    gi_wp2
    exact hK
  case body =>
    rintro l pre x W ⟨⟨⟨hp, hb0⟩, hb1⟩, hB⟩ _
    have c0 := hb0.cell 0
    have c1 := hb0.cell 1
    have c2 := hb0.cell 2
    have c3 := hb1.cell 0
    have f3 := hb1.frozen 0
    have fin : ∀ x : Fin 3, okD (dimAt d0 d1 d2 x) → ∀ k ∈ pre ++ [x], okD (dimAt d0 d1 d2 k) := fun x hx k hk => by
      rcases List.mem_append.1 hk with h | h
      · exact hp k h
      · simp at h; subst h; exact hx
    simp at c0 c1 c2 c3
    rcases fin3 x with rfl | rfl | rfl
    all_goals
      simp only [axI]
      gi_wp2
    all_goals first
      | exact ⟨KeepsOthers.refl _, trivial, ⟨⟨fin _ (by simp only [dimAt, okD]; omega), hb0⟩, hb1⟩, hB⟩
      | exact ⟨KeepsOthers.setCell _ _ _, ⟨⟨rfl, _, List.mem_append.2 (.inr (List.mem_singleton.2 rfl)), by simp only [dimAt, okD]; omega⟩, hb1.set 0 _⟩, hB.setCell (p := ⟨w.heap.size + 1, 0, none⟩) (by simp) _⟩
  case done =>
    rintro D xs W hD rfl ⟨⟨⟨hp, hb0⟩, hb1⟩, hB⟩ hK
    have c3 := hb1.cell 0
    have f3 := hb1.frozen 0
    simp at c3
    gi_wp2
    have hK' := (KeepsOthers.setCell W ⟨w.heap.size + 1, 0, none⟩ (.int .i64 0)).same D _ hK rfl
    refine ⟨by simp, .inl ⟨_, _, rfl, run_takeDeferred hK', ?_⟩⟩
    have hc5 := ((hb1.set 0 (.int .i64 0)).putObj (.deferred none) hK' rfl).cell 0
    have ho0 := hp 0 (by simp)
    have ho1 := hp 1 (by simp)
    have ho2 := hp 2 (by simp)
    simp only [dimAt, okD] at ho0 ho1 ho2
    refine ⟨.int .i64 0, ?_, .inl ⟨⟨ho0, ho1, ho2⟩, rfl⟩, below_put _ (hB.setCell (p := ⟨w.heap.size + 1, 0, none⟩) (by simp) _) (by simp at hD; omega) hK'⟩
    simp [results, Tryd.f22, go_sem, hc5]
  case stop =>
    rintro D c pre W hD hpre ⟨⟨⟨rfl, k, hk, hno⟩, hb1⟩, hB⟩ hK
    have c3 := hb1.cell 0
    simp at c3
    gi_wp2
    refine ⟨by simp, .inl ⟨_, _, rfl, run_takeDeferred hK, ?_⟩⟩
    have hc5 := (hb1.putObj (.deferred none) hK rfl).cell 0
    refine ⟨.int .i64 8, ?_, .inr ⟨fun hm => hno ?_, rfl⟩, below_put _ hB (by simp at hD; omega) hK⟩
    · simp [results, Tryd.f22, go_sem, hc5]
    · obtain ⟨m0, m1, m2⟩ := hm
      rcases fin3 k with rfl | rfl | rfl <;> simp only [dimAt, okD] <;> assumption

theorem check_yes {d0 d1 d2 : Int} (w : World) (h : mayD d0 d1 d2) : Calls Tryd.prog 22 #[A3 d0 d1 d2] w fun e W' => e = .returned (I 0) ∧ Below w.heap.size w W' := by
  refine ((callsIn_wide (n := 3)).1 (check_in Fence.wide 3 trivial trivial trivial rfl (by omega) d0 d1 d2 w)).mono ?_
  rintro e W' ⟨⟨_, rfl⟩ | ⟨hn, _⟩, hB⟩
  · exact ⟨rfl, hB⟩
  · exact absurd h hn

theorem check_no {d0 d1 d2 : Int} (w : World) (h : ¬ mayD d0 d1 d2) : Calls Tryd.prog 22 #[A3 d0 d1 d2] w fun e W' => e = .returned (I 8) ∧ Below w.heap.size w W' := by
  refine ((callsIn_wide (n := 3)).1 (check_in Fence.wide 3 trivial trivial trivial rfl (by omega) d0 d1 d2 w)).mono ?_
  rintro e W' ⟨⟨hy, _⟩ | ⟨_, rfl⟩, hB⟩
  · exact absurd hy h
  · exact ⟨rfl, hB⟩

theorem axes_calls (d0 d1 d2 : Int) (w : World) :
    Calls Tryd.prog 33 #[A3 d0 d1 d2] w fun e w' => e = .returned (.func (.func 47) #[] #[.pointer (some ⟨w.heap.size, 0, none⟩)]) ∧ w' = w.alloc (.cells #[I d0, I d1, I d2] 33) :=
  (callsIn_wide (n := 3)).1 (axes_in Fence.wide 3 trivial rfl d0 d1 d2 w)

end Go.Proofs.YtanhhlekbdhfmaaDoor

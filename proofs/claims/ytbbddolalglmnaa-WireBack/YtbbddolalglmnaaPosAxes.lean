/-
  pos.axes hands out the three axes, each with its stride, and stops where a round says so; whatever dimensions it is given.
-/
import Derived.Test.YtbbddolalglmnaaPosMath
import Derived.Test.YtbbddolalglmnaaProg
namespace Go.Proofs.Ytbbddolalglmnaa
open Go.RowKit Go.Shelf

attribute [local go_sem] Oper.semAt_some

def axI (k : Fin 3) : Int := match k with | 0 => 0 | 1 => 1 | 2 => 2
abbrev axEnc (d0 d1 : Int) (k : Fin 3) : Array Value := #[.int .i64 (axI k), .int .i64 (strd d0 d1 k)]

theorem fin3 : ∀ x : Fin 3, x = 0 ∨ x = 1 ∨ x = 2 := by decide

theorem axes_in (F : Fence) (n : Nat) (hF : F.fn 39) (hro : F.round = none) (d0 d1 d2 : Int) (w : World) :
    CallsIn F n Try.prog 39 #[A3 d0 d1 d2] w fun e w' => e = .returned (.func (.func 50) #[] #[.pointer (some ⟨w.heap.size, 0, none⟩)]) ∧ w' = w.alloc (.cells #[I d0, I d1, I d2] 26) := by
  refine callsIn_of_wp Try.func39 rfl hF ?_ hro
  simp only [Try.ntmps39, List.size_toArray, List.length_cons, List.length_nil, Nat.reduceAdd, Nat.reduceSub, Array.replicate_succ, Array.replicate_zero, List.push_toArray, List.append_toArray, List.nil_append, List.cons_append]
  gi_wp2
  go_ret
  exact ⟨rfl, rfl⟩

set_option maxRecDepth 100000 in
set_option maxHeartbeats 2000000 in
theorem axes_stops (F : Fence) (n : Nat) (hF : F.fn 50) (hro : F.round = none) (hn : 1 ≤ n) (Bn : Nat) (d0 d1 d2 : Int) (w : World)
    (hlt : Bn < w.heap.size) (h0 : w.cell? ⟨Bn, 0, none⟩ = some (I d0)) (h1 : w.cell? ⟨Bn, 1, none⟩ = some (I d1)) (h2 : w.cell? ⟨Bn, 2, none⟩ = some (I d2)) :
    SeqStopsK F n Try.prog 50 #[.pointer (some ⟨Bn, 0, none⟩)] (axEnc d0 d1) (fun _ _ => True) (fun xs => xs = [0, 1, 2]) (fun pre => pre <+: [0, 1, 2]) 3 w := fun l J Jx W hW hJ hJx hY hJ0 => by
  have c0 : W.cell? ⟨Bn, 0, none⟩ = some (I d0) := (hW.cell (p := ⟨Bn, 0, none⟩) hlt).trans h0
  have c1 : W.cell? ⟨Bn, 1, none⟩ = some (I d1) := (hW.cell (p := ⟨Bn, 1, none⟩) hlt).trans h1
  have c2 : W.cell? ⟨Bn, 2, none⟩ = some (I d2) := (hW.cell (p := ⟨Bn, 2, none⟩) hlt).trans h2
  refine callsIn_of_wp Try.func50 rfl hF ?_ hro
  simp only [Try.ntmps50, List.size_toArray, List.length_cons, List.length_nil, Nat.reduceAdd, Nat.reduceSub, Array.replicate_succ, Array.replicate_zero, List.push_toArray, List.append_toArray, List.nil_append, List.cons_append]
  have i0 : ∀ w, (Instr.index 26 (A3 d0 d1 d2) (.int .i64 0)).run Try.prog w = .ok (I d0) w := fun _ => by kernel_rfl
  have i1 : ∀ w, (Instr.index 26 (A3 d0 d1 d2) (.int .i64 1)).run Try.prog w = .ok (I d1) w := fun _ => by kernel_rfl
  have i2 : ∀ w, (Instr.index 26 (A3 d0 d1 d2) (.int .i64 2)).run Try.prog w = .ok (I d2) w := fun _ => by kernel_rfl
  gi_wp2
  gi_loopw [3, 7] (fun s i wr => (i = .int .i64 0 ∧ s = .int .i64 1 ∧ J [] wr) ∨ (i = .int .i64 1 ∧ s = .int .i64 (wrap64 d0) ∧ J [0] wr) ∨ (i = .int .i64 2 ∧ s = .int .i64 (wrap64 (wrap64 d0 * d1)) ∧ J [0, 1] wr) ∨ (i = .int .i64 3 ∧ J [0, 1, 2] wr)) (fun _ i _ => 3 - (intOf i).toNat)
  case atStart => exact .inl ⟨rfl, rfl, hJ0⟩
  case round =>
    rcases hrel with ⟨rfl, rfl, hj⟩ | ⟨rfl, rfl, hj⟩ | ⟨rfl, rfl, hj⟩ | ⟨rfl, hj⟩
    · obtain ⟨f1, t1, a1, b1, hy1, hR1⟩ := hY [] 0 wr hj (by simp)
      simp only [axEnc, axI, strd] at hy1
      gi_wp2
      refine hR1.mono ?_
      rintro e W3 (⟨rfl, hJ3, _⟩ | ⟨rfl, hJx3⟩)
      · gi_wp2
        go_roundw
        case rel => exact .inr (.inl ⟨rfl, by first | rfl | simp, hJ3⟩)
        case measure => simp [intOf]
      · gi_wp2
        refine bodyPost_ret (results_none rfl _ _ _) rfl ?_
        exact ⟨⟨_, rfl⟩, .inr ⟨_, by simp, hJx3⟩⟩
    · obtain ⟨f1, t1, a1, b1, hy1, hR1⟩ := hY [0] 1 wr hj (by simp)
      simp only [axEnc, axI, strd] at hy1
      gi_wp2
      refine hR1.mono ?_
      rintro e W3 (⟨rfl, hJ3, _⟩ | ⟨rfl, hJx3⟩)
      · gi_wp2
        go_roundw
        case rel => exact .inr (.inr (.inl ⟨rfl, rfl, hJ3⟩))
        case measure => simp [intOf]
      · gi_wp2
        refine bodyPost_ret (results_none rfl _ _ _) rfl ?_
        exact ⟨⟨_, rfl⟩, .inr ⟨_, by simp, hJx3⟩⟩
    · obtain ⟨f1, t1, a1, b1, hy1, hR1⟩ := hY [0, 1] 2 wr hj (by simp)
      simp only [axEnc, axI, strd] at hy1
      gi_wp2
      refine hR1.mono ?_
      rintro e W3 (⟨rfl, hJ3, _⟩ | ⟨rfl, hJx3⟩)
      · gi_wp2
        go_roundw
        case rel => exact .inr (.inr (.inr ⟨rfl, hJ3⟩))
        case measure => simp [intOf]
      · gi_wp2
        refine bodyPost_ret (results_none rfl _ _ _) rfl ?_
        exact ⟨⟨_, rfl⟩, .inr ⟨_, by simp, hJx3⟩⟩
    · gi_wp2
      go_end0
      exact ⟨⟨_, rfl⟩, .inl ⟨_, rfl, hj⟩⟩


/-- A loop over the axes, at the wide fence: what the loop's body keeps, a round at a time. -/
theorem wpIn_axes {g : Operand} {ps : Array Tmp} {assign body : Code} {Q : Exit → Act → World → Prop} {a : Act} {w : World} (Bn : Nat) (d0 d1 d2 : Int)
    (hg : a.eval g = .func (.func 50) #[] #[.pointer (some ⟨Bn, 0, none⟩)]) (hb : Blk w Bn 26 #[I d0, I d1, I d2]) (hps : ps.size = 2)
    (J : List (Fin 3) → World → Prop) (Jx : Code → List (Fin 3) → World → Prop) (hJ : OwnFrom w.heap.size J) (hJx : ∀ c, OwnFrom w.heap.size (Jx c)) (h0 : J [] w) (a₁ : Fin 3 → Act)
    (hassign : ∀ (l : Nat) (x : Fin 3) (W : World) (K : Act → World → Prop), K (a₁ x) W →
      assign.wpIn (Fence.wide.inRound l) 1 Try.prog (Exit.then K (fun _ _ _ => False)) { tmps := (ps.zip (axEnc d0 d1 x)).foldl (fun t (p, v) => t.setIfInBounds p v) a.tmps, defers := [] } W)
    (hbody : ∀ (l : Nat) (pre : List (Fin 3)) (x : Fin 3) (W : World), J pre W → pre.length < 3 → body.wpIn (Fence.wide.inRound l) 1 Try.prog (ownPostK (fun _ _ => True) J Jx (pre ++ [x]) W) (a₁ x) W)
    (hdone : ∀ (D : Nat) (W : World), w.heap.size ≤ D → J [0, 1, 2] W → W.heap[D]? = some (.deferred (some [])) → Q .normal { a with defers := { target := .collected D, args := #[] } :: a.defers } W)
    (hstop : ∀ (D : Nat) (c : Code) (pre : List (Fin 3)) (W : World), w.heap.size ≤ D → pre <+: [0, 1, 2] → Jx c pre W → W.heap[D]? = some (.deferred (some [])) → c.wpIn Fence.wide 3 Try.prog Q { a with defers := { target := .collected D, args := #[] } :: a.defers } W) :
    (Code.rangeFunc g ps assign body).wpIn Fence.wide 3 Try.prog Q a w :=
  wpIn_rangeFunc_ownF rfl (by omega) (gf := 50) (lb := #[.pointer (some ⟨Bn, 0, none⟩)]) hg trivial (enters_of Try.func50 (by kernel_rfl) rfl)
    (axes_stops Fence.wide 2 trivial rfl (by omega) Bn d0 d1 d2 w hb.lt (hb.cell 0) (hb.cell 1) (hb.cell 2)) (fun _ _ => trivial) (fun _ _ _ _ _ _ _ _ => trivial) (Below.refl _ _) (fun _ => hps.symm)
    J Jx hJ hJx h0 a₁ hassign hbody (fun D xs W hD hxs hj => by subst hxs; exact hdone D W hD hj) hstop

end Go.Proofs.Ytbbddolalglmnaa

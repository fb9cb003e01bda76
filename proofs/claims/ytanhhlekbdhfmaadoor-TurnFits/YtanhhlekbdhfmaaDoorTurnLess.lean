/-
  The document's less: which of two comes first.
-/
import Derived.Test.YtanhhlekbdhfmaaDoorTurnOrder
namespace Go.Proofs.YtanhhlekbdhfmaaDoor
open Go Go.RowKit Go.Shelf Go.Sort

attribute [local go_sem] Oper.semAt_some ext_const eq_ints_at eq_bools_at eq_wants ix0 ix1 ix2

theorem below_drewN (w : World) (n : Nat) {B : Nat} {a : World} (h : Below B a w) : Below B a (w.drewN n) := ⟨h.os, h.tape, h.output, h.size, h.block⟩

set_option maxRecDepth 100000 in
set_option maxHeartbeats 4000000 in
theorem wless_calls (x y z : Int) (p q r t : Bool) (x' y' z' : Int) (p' q' r' t' : Bool) (w : World) :
    Calls Tryd.prog 48 #[V7 x y z p q r t, V7 x' y' z' p' q' r' t'] w fun e W' => e = .returned (.bool (lessT (x, y, z, p, q, r, t) (x', y', z', p', q', r', t'))) ∧ Below w.heap.size w W' := by
  obtain ⟨W, hW, hBW, b0, b1⟩ := two_start w (cells7 x y z p q r t) (cells7 x' y' z' p' q' r' t') 29 29
  have HG : Hid (∀ n, Below w.heap.size w (W.drewN n)) := fun n => below_drewN W n hBW
  obtain ⟨s0, s1, s2, s3, s4, s5, _⟩ := b0.seven
  obtain ⟨d0, d1, d2, d3, d4, d5, _⟩ := b1.seven
  clear b0 b1 hBW
  have hf := flag_calls
  have HA : Hid (lessT (x, y, z, p, q, r, t) (x', y', z', p', q', r', t') = if x ≠ x' then decide (x < x') else if y ≠ y' then decide (y < y') else if z ≠ z' then decide (z < z') else if p ≠ p' then decide (bit p < bit p') else if q ≠ q' then decide (bit q < bit q') else if r ≠ r' then decide (bit r < bit r') else false) := rfl
  generalize lessT (x, y, z, p, q, r, t) (x', y', z', p', q', r', t') = ans at HA ⊢
  have HW : Hid ((w.alloc (.cells (cells7 x y z p q r t) 29)).alloc (.cells (cells7 x' y' z' p' q' r' t') 29) = W) := hW
  clear hW
  go_enter Tryd.func48, Tryd.ntmps48
  go_wp2
  rw [HW.out]
  go_loopw [5] (fun i wr => ∃ n, wr = W.drewN n ∧ (i = .int .i64 0 ∨ (i = .int .i64 1 ∧ Hid (x = x')) ∨ (i = .int .i64 2 ∧ Hid (x = x' ∧ y = y')) ∨ (i = .int .i64 3 ∧ Hid (x = x' ∧ y = y' ∧ z = z')))) (fun i _ => 3 - (intOf i).toNat)
  case atStart => exact ⟨0, rfl, .inl rfl⟩
  case round =>
    obtain ⟨n, rfl, hrel⟩ := hrel
    rcases hrel with rfl | ⟨rfl, H0⟩ | ⟨rfl, H0⟩ | ⟨rfl, H0⟩
    · have HQ : Hid (x ≠ x' → ans = decide (x < x')) := fun hq => by rw [HA.out]; simp [hq]
      by_cases hq : x = x'
      · have HN : Hid (x = x') := hq
        have hq' : (x != x') = false := by simpa using hq
        clear hq HQ
        go_wp2
        go_quiet (fail)
        go_wp2
        go_roundw
        case rel => exact ⟨_, rfl, .inr (.inl ⟨rfl, HN⟩)⟩
        case measure => simp [intOf]
      · have hans := HQ.out hq
        have HQ' : Hid (decide (x < x') = ans) := hans.symm
        have hq' : (x != x') = true := by simpa using hq
        clear HQ hans hq
        go_wp2
        go_quiet (fail)
        go_wp2
        go_quiet (fail)
        go_wp2
        go_ret
        exact ⟨by first | rfl | (rw [← HQ'.out]; rfl) | (rw [← HQ'.out]; simp), by first | exact HG.out _ | (simp only [World.drewN_drewN]; exact HG.out _)⟩
    · have HQ : Hid (y ≠ y' → ans = decide (y < y')) := fun hq => by rw [HA.out]; simp [H0.out, hq]
      by_cases hq : y = y'
      · have HN : Hid (x = x' ∧ y = y') := ⟨H0.out, hq⟩
        have hq' : (y != y') = false := by simpa using hq
        clear hq HQ
        go_wp2
        go_quiet (fail)
        go_wp2
        go_roundw
        case rel => exact ⟨_, rfl, .inr (.inr (.inl ⟨rfl, HN⟩))⟩
        case measure => simp [intOf]
      · have hans := HQ.out hq
        have HQ' : Hid (decide (y < y') = ans) := hans.symm
        have hq' : (y != y') = true := by simpa using hq
        clear HQ hans hq
        go_wp2
        go_quiet (fail)
        go_wp2
        go_quiet (fail)
        go_wp2
        go_ret
        exact ⟨by first | rfl | (rw [← HQ'.out]; rfl) | (rw [← HQ'.out]; simp), by first | exact HG.out _ | (simp only [World.drewN_drewN]; exact HG.out _)⟩
    · have HQ : Hid (z ≠ z' → ans = decide (z < z')) := fun hq => by rw [HA.out]; simp [H0.out.1, H0.out.2, hq]
      by_cases hq : z = z'
      · have HN : Hid (x = x' ∧ y = y' ∧ z = z') := ⟨H0.out.1, H0.out.2, hq⟩
        have hq' : (z != z') = false := by simpa using hq
        clear hq HQ
        go_wp2
        go_quiet (fail)
        go_wp2
        go_roundw
        case rel => exact ⟨_, rfl, .inr (.inr (.inr ⟨rfl, HN⟩))⟩
        case measure => simp [intOf]
      · have hans := HQ.out hq
        have HQ' : Hid (decide (z < z') = ans) := hans.symm
        have hq' : (z != z') = true := by simpa using hq
        clear HQ hans hq
        go_wp2
        go_quiet (fail)
        go_wp2
        go_quiet (fail)
        go_wp2
        go_ret
        exact ⟨by first | rfl | (rw [← HQ'.out]; rfl) | (rw [← HQ'.out]; simp), by first | exact HG.out _ | (simp only [World.drewN_drewN]; exact HG.out _)⟩
    · go_wp2
      go_loopw [6] (fun i wr => ∃ n, wr = W.drewN n ∧ (i = .int .i64 0 ∨ (i = .int .i64 1 ∧ Hid (p = p')) ∨ (i = .int .i64 2 ∧ Hid (p = p' ∧ q = q')) ∨ (i = .int .i64 3 ∧ Hid (p = p' ∧ q = q' ∧ r = r')))) (fun i _ => 3 - (intOf i).toNat)
      case atStart => exact ⟨n, rfl, .inl rfl⟩
      case round =>
        obtain ⟨n, rfl, hrel⟩ := hrel
        obtain ⟨E0, E1, E2⟩ := H0.out
        rcases hrel with rfl | ⟨rfl, H1⟩ | ⟨rfl, H1⟩ | ⟨rfl, H1⟩
        · have HQ : Hid (p ≠ p' → ans = decide (bit p < bit p')) := fun hq => by rw [HA.out]; simp [E0, E1, E2, hq]
          have f1 := fun w => hf p w
          have f2 := fun w => hf p' w
          clear E0 E1 E2 hf
          by_cases hq : p = p'
          · have HN : Hid (p = p') := hq
            have hq' : (p == p') = true := by simpa using hq
            clear hq HQ f1 f2
            go_wp2
            go_quiet (fail)
            go_wp2
            go_roundw
            case rel => exact ⟨_, rfl, .inr (.inl ⟨rfl, HN⟩)⟩
            case measure => simp [intOf]
          · have HQ' : Hid (decide (bit p < bit p') = ans) := (HQ.out hq).symm
            have hq' : (p == p') = false := by simpa using hq
            clear HQ hq
            generalize bit p = c at *
            generalize bit p' = c' at *
            go_wp2
            go_quiet (fail)
            go_wp2
            go_quiet ((go_at_call 54; first | exact quiet_n (f1 _) | exact quiet_n (f2 _)))
            go_wp2
            go_ret
            exact ⟨by first | rfl | (rw [← HQ'.out]; rfl) | (rw [← HQ'.out]; simp), by first | exact HG.out _ | (simp only [World.drewN_drewN]; exact HG.out _)⟩
        · have HQ : Hid (q ≠ q' → ans = decide (bit q < bit q')) := fun hq => by rw [HA.out]; simp [E0, E1, E2, H1.out, hq]
          have f1 := fun w => hf q w
          have f2 := fun w => hf q' w
          clear E0 E1 E2 hf
          by_cases hq : q = q'
          · have HN : Hid (p = p' ∧ q = q') := ⟨H1.out, hq⟩
            have hq' : (q == q') = true := by simpa using hq
            clear hq HQ f1 f2
            go_wp2
            go_quiet (fail)
            go_wp2
            go_roundw
            case rel => exact ⟨_, rfl, .inr (.inr (.inl ⟨rfl, HN⟩))⟩
            case measure => simp [intOf]
          · have HQ' : Hid (decide (bit q < bit q') = ans) := (HQ.out hq).symm
            have hq' : (q == q') = false := by simpa using hq
            clear HQ hq
            generalize bit q = c at *
            generalize bit q' = c' at *
            go_wp2
            go_quiet (fail)
            go_wp2
            go_quiet ((go_at_call 54; first | exact quiet_n (f1 _) | exact quiet_n (f2 _)))
            go_wp2
            go_ret
            exact ⟨by first | rfl | (rw [← HQ'.out]; rfl) | (rw [← HQ'.out]; simp), by first | exact HG.out _ | (simp only [World.drewN_drewN]; exact HG.out _)⟩
        · have HQ : Hid (r ≠ r' → ans = decide (bit r < bit r')) := fun hq => by rw [HA.out]; simp [E0, E1, E2, H1.out.1, H1.out.2, hq]
          have f1 := fun w => hf r w
          have f2 := fun w => hf r' w
          clear E0 E1 E2 hf
          by_cases hq : r = r'
          · have HN : Hid (p = p' ∧ q = q' ∧ r = r') := ⟨H1.out.1, H1.out.2, hq⟩
            have hq' : (r == r') = true := by simpa using hq
            clear hq HQ f1 f2
            go_wp2
            go_quiet (fail)
            go_wp2
            go_roundw
            case rel => exact ⟨_, rfl, .inr (.inr (.inr ⟨rfl, HN⟩))⟩
            case measure => simp [intOf]
          · have HQ' : Hid (decide (bit r < bit r') = ans) := (HQ.out hq).symm
            have hq' : (r == r') = false := by simpa using hq
            clear HQ hq
            generalize bit r = c at *
            generalize bit r' = c' at *
            go_wp2
            go_quiet (fail)
            go_wp2
            go_quiet ((go_at_call 54; first | exact quiet_n (f1 _) | exact quiet_n (f2 _)))
            go_wp2
            go_ret
            exact ⟨by first | rfl | (rw [← HQ'.out]; rfl) | (rw [← HQ'.out]; simp), by first | exact HG.out _ | (simp only [World.drewN_drewN]; exact HG.out _)⟩
        · obtain rfl : ans = false := by
            obtain ⟨F0, F1, F2⟩ := H1.out
            rw [HA.out]; simp [E0, E1, E2, F0, F1, F2]
          clear E0 E1 E2
          go_wp2
          go_ret
          exact ⟨rfl, HG.out _⟩

end Go.Proofs.YtanhhlekbdhfmaaDoor

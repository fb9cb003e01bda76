/-
  Which of two comes first: turn.compare, and the document's less.
-/
import Derived.Test.YtanhhlekbdhfmaaDoorTurnTurned
import Derived.Shelf.SlSortCmp.SmallK
namespace Go.Proofs.YtanhhlekbdhfmaaDoor
open Go Go.RowKit Go.Shelf Go.Sort

attribute [local go_sem] Oper.semAt_some ext_const eq_ints_at eq_bools_at eq_wants ix0 ix1 ix2

def cmpI (x y : Int) : Int := if x < y then -1 else if y < x then 1 else 0
theorem cmpI_cases (x y : Int) : (x < y ∧ cmpI x y = -1) ∨ (y < x ∧ cmpI x y = 1) ∨ (x = y ∧ cmpI x y = 0) := by
  unfold cmpI
  by_cases h : x < y
  · simp [h]
  · by_cases k : y < x
    · simp [h, k]
    · simp [h, k]; omega
def ffT (p : Bool) : Int := if p then 1 else -1
def cmpT : Wt → Wt → Int
  | (x, y, z, p, q, r, _), (x', y', z', p', q', r', _) =>
    if cmpI x x' ≠ 0 then cmpI x x' else if cmpI y y' ≠ 0 then cmpI y y' else if cmpI z z' ≠ 0 then cmpI z z' else
    if p ≠ p' then ffT p else if q ≠ q' then ffT q else if r ≠ r' then ffT r else 0

set_option maxRecDepth 100000 in
theorem nan_calls (x : Int) (w : World) : Calls Tryd.prog 46 #[I x] w fun e W' => e = .returned (.bool false) ∧ W' = w := by
  go_enter Tryd.func46, Tryd.ntmps46
  go_wp2
  go_ret
  exact ⟨by simp, rfl⟩
set_option maxRecDepth 100000 in
set_option maxHeartbeats 1000000 in
theorem cmp_calls (x y : Int) (w : World) : Calls Tryd.prog 31 #[I x, I y] w fun e W' => e = .returned (.int .i64 (cmpI x y)) ∧ W' = w := by
  have hn := nan_calls
  rcases cmpI_cases x y with ⟨h, e⟩ | ⟨h, e⟩ | ⟨h, e⟩
  · rw [e]
    clear e
    go_enter Tryd.func31, Tryd.ntmps31
    go_wp2_with (go_at_call 46; refine (hn _ _).mono ?_; rintro e w' ⟨rfl, rfl⟩)
    go_ret
    exact ⟨rfl, rfl⟩
  · rw [e]
    clear e
    have h' : ¬ x < y := by omega
    go_enter Tryd.func31, Tryd.ntmps31
    go_wp2_with (go_at_call 46; refine (hn _ _).mono ?_; rintro e w' ⟨rfl, rfl⟩)
    go_ret
    exact ⟨rfl, rfl⟩
  · rw [e]
    clear e
    subst h
    go_enter Tryd.func31, Tryd.ntmps31
    go_wp2_with (go_at_call 46; refine (hn _ _).mono ?_; rintro e w' ⟨rfl, rfl⟩)
    go_ret
    exact ⟨rfl, rfl⟩
set_option maxRecDepth 100000 in
theorem ff_calls (p : Bool) (w : World) : Calls Tryd.prog 32 #[.bool p] w fun e W' => e = .returned (.int .i64 (ffT p)) ∧ W' = w := by
  cases p <;>
  · go_enter Tryd.func32, Tryd.ntmps32
    go_wp2
    go_ret
    exact ⟨rfl, rfl⟩
set_option maxRecDepth 100000 in
theorem flag_calls (p : Bool) (w : World) : Calls Tryd.prog 54 #[.bool p] w fun e W' => e = .returned (.int .i64 (bit p)) ∧ W' = w := by
  cases p <;>
  · go_enter Tryd.func54, Tryd.ntmps54
    go_wp2
    go_ret
    exact ⟨rfl, rfl⟩

/-- Worlds that a call came to by looking alone, two blocks laid first. -/
theorem two_grown (w : World) (o1 o2 : Obj) (n : Nat) : ((w.alloc o1).alloc o2).drewN n = grow (w.drewN n) #[o1, o2] := by
  rw [alloc_eq_grow, alloc_eq_grow, grow_grow]; rfl

theorem quiet_n {P : Program} {f : FuncId} {args : Array Value} {W : World} {n a : Nat} {v : Value} (h : Calls P f args (W.drewN (n + a)) fun e w' => e = .returned v ∧ w' = W.drewN (n + a)) :
    Calls P f args (W.drewN (n + a)) fun e w'' => e = .returned v ∧ ∃ m, w'' = W.drewN (n + m) := h.mono fun _ _ ⟨he, hm⟩ => ⟨he, a, hm⟩

set_option maxRecDepth 100000 in
set_option maxHeartbeats 4000000 in
theorem compare_calls (x y z : Int) (p q r t : Bool) (x' y' z' : Int) (p' q' r' t' : Bool) (w : World) :
    Calls Tryd.prog 21 #[V7 x y z p q r t, V7 x' y' z' p' q' r' t'] w fun e W' => e = .returned (.int .i64 (cmpT (x, y, z, p, q, r, t) (x', y', z', p', q', r', t'))) ∧ ∃ n os, W' = grow (w.drewN n) os := by
  obtain ⟨W, hW⟩ : ∃ W, (w.alloc (.cells (cells7 x y z p q r t) 29)).alloc (.cells (cells7 x' y' z' p' q' r' t') 29) = W := ⟨_, rfl⟩
  have HG : Hid (∀ n, ∃ m os, W.drewN n = grow (w.drewN m) os) := fun n => ⟨n, _, by rw [← hW, two_grown]⟩
  have b0 : Blk W w.heap.size 29 (cells7 x y z p q r t) := by rw [← hW]; exact (Blk.new w _ _).alloc _
  have b1 : Blk W (w.heap.size + 1) 29 (cells7 x' y' z' p' q' r' t') := by
    rw [← hW]
    have := Blk.new (w.alloc (.cells (cells7 x y z p q r t) 29)) 29 (cells7 x' y' z' p' q' r' t')
    simpa using this
  obtain ⟨s0, s1, s2, s3, s4, s5, _⟩ := b0.seven
  obtain ⟨d0, d1, d2, d3, d4, d5, _⟩ := b1.seven
  clear b0 b1
  have hc := cmp_calls
  have hf := ff_calls
  have HA : Hid (cmpT (x, y, z, p, q, r, t) (x', y', z', p', q', r', t') = if cmpI x x' ≠ 0 then cmpI x x' else if cmpI y y' ≠ 0 then cmpI y y' else if cmpI z z' ≠ 0 then cmpI z z' else if p ≠ p' then ffT p else if q ≠ q' then ffT q else if r ≠ r' then ffT r else 0) := rfl
  generalize cmpT (x, y, z, p, q, r, t) (x', y', z', p', q', r', t') = ans at HA ⊢
  have HW : Hid ((w.alloc (.cells (cells7 x y z p q r t) 29)).alloc (.cells (cells7 x' y' z' p' q' r' t') 29) = W) := hW
  clear hW
  go_enter Tryd.func21, Tryd.ntmps21
  go_wp2
  rw [HW.out]
  go_loopw [8] (fun i wr => ∃ n, wr = W.drewN n ∧ (i = .int .i64 0 ∨ (i = .int .i64 1 ∧ Hid (cmpI x x' = 0)) ∨ (i = .int .i64 2 ∧ Hid (cmpI x x' = 0 ∧ cmpI y y' = 0)) ∨ (i = .int .i64 3 ∧ Hid (cmpI x x' = 0 ∧ cmpI y y' = 0 ∧ cmpI z z' = 0)))) (fun i _ => 3 - (intOf i).toNat)
  case atStart => exact ⟨0, rfl, .inl rfl⟩
  case round =>
    obtain ⟨n, rfl, hrel⟩ := hrel
    rcases hrel with rfl | ⟨rfl, H0⟩ | ⟨rfl, H0⟩ | ⟨rfl, H0⟩
    · have hcc := fun w => hc x x' w
      have HQ : Hid (cmpI x x' ≠ 0 → ans = cmpI x x') := fun hq => by rw [HA.out]; simp [hq]
      by_cases hq : cmpI x x' = 0
      · have HN : Hid ((cmpI x x' = 0)) := hq
        rw [hq] at hcc
        clear hq HQ
        go_wp2
        go_quiet ((go_at_call 31; exact quiet_n (hcc _)))
        go_wp2
        go_roundw
        case rel => exact ⟨_, rfl, .inr (.inl ⟨rfl, HN⟩)⟩
        case measure => simp [intOf]
      · have hans := HQ.out hq
        rw [← hans] at hcc hq
        have hq' : (ans != 0) = true := by simpa using hq
        clear HQ hans hq
        go_wp2
        go_quiet ((go_at_call 31; exact quiet_n (hcc _)))
        go_wp2
        go_ret
        exact ⟨rfl, HG.out _⟩
    · have hcc := fun w => hc y y' w
      have HQ : Hid (cmpI y y' ≠ 0 → ans = cmpI y y') := fun hq => by rw [HA.out]; simp [H0.out, hq]
      by_cases hq : cmpI y y' = 0
      · have HN : Hid ((cmpI x x' = 0 ∧ cmpI y y' = 0)) := ⟨H0.out, hq⟩
        rw [hq] at hcc
        clear hq HQ
        go_wp2
        go_quiet ((go_at_call 31; exact quiet_n (hcc _)))
        go_wp2
        go_roundw
        case rel => exact ⟨_, rfl, .inr (.inr (.inl ⟨rfl, HN⟩))⟩
        case measure => simp [intOf]
      · have hans := HQ.out hq
        rw [← hans] at hcc hq
        have hq' : (ans != 0) = true := by simpa using hq
        clear HQ hans hq
        go_wp2
        go_quiet ((go_at_call 31; exact quiet_n (hcc _)))
        go_wp2
        go_ret
        exact ⟨rfl, HG.out _⟩
    · have hcc := fun w => hc z z' w
      have HQ : Hid (cmpI z z' ≠ 0 → ans = cmpI z z') := fun hq => by rw [HA.out]; simp [H0.out.1, H0.out.2, hq]
      by_cases hq : cmpI z z' = 0
      · have HN : Hid ((cmpI x x' = 0 ∧ cmpI y y' = 0 ∧ cmpI z z' = 0)) := ⟨H0.out.1, H0.out.2, hq⟩
        rw [hq] at hcc
        clear hq HQ
        go_wp2
        go_quiet ((go_at_call 31; exact quiet_n (hcc _)))
        go_wp2
        go_roundw
        case rel => exact ⟨_, rfl, .inr (.inr (.inr ⟨rfl, HN⟩))⟩
        case measure => simp [intOf]
      · have hans := HQ.out hq
        rw [← hans] at hcc hq
        have hq' : (ans != 0) = true := by simpa using hq
        clear HQ hans hq
        go_wp2
        go_quiet ((go_at_call 31; exact quiet_n (hcc _)))
        go_wp2
        go_ret
        exact ⟨rfl, HG.out _⟩
    · go_wp2
      clear hc
      go_loopw [24] (fun i wr => ∃ n, wr = W.drewN n ∧ (i = .int .i64 0 ∨ (i = .int .i64 1 ∧ Hid (p = p')) ∨ (i = .int .i64 2 ∧ Hid (p = p' ∧ q = q')) ∨ (i = .int .i64 3 ∧ Hid (p = p' ∧ q = q' ∧ r = r')))) (fun i _ => 3 - (intOf i).toNat)
      case atStart => exact ⟨n, rfl, .inl rfl⟩
      case round =>
        obtain ⟨n, rfl, hrel⟩ := hrel
        obtain ⟨E0, E1, E2⟩ := H0.out
        rcases hrel with rfl | ⟨rfl, H1⟩ | ⟨rfl, H1⟩ | ⟨rfl, H1⟩
        · have HQ : Hid (p ≠ p' → ans = ffT p) := fun hq => by rw [HA.out]; simp [E0, E1, E2, hq]
          have hff := fun w => hf p w
          clear E0 E1 E2
          by_cases hq : p = p'
          · have HN : Hid (p = p') := hq
            have hq' : (p == p') = true := by simpa using hq
            clear hq HQ hf hff
            go_wp2
            go_quiet (fail)
            go_wp2
            go_roundw
            case rel => exact ⟨_, rfl, .inr (.inl ⟨rfl, HN⟩)⟩
            case measure => simp [intOf]
          · have hans := HQ.out hq
            rw [← hans] at hff
            have hq' : (p == p') = false := by simpa using hq
            clear HQ hans hq
            go_wp2
            go_quiet (fail)
            go_wp2_with (go_at_call 32; refine (hff _).mono ?_; rintro e w' ⟨rfl, rfl⟩)
            go_ret
            exact ⟨rfl, HG.out _⟩
        · have HQ : Hid (q ≠ q' → ans = ffT q) := fun hq => by rw [HA.out]; simp [E0, E1, E2, H1.out, hq]
          have hff := fun w => hf q w
          clear E0 E1 E2
          by_cases hq : q = q'
          · have HN : Hid (p = p' ∧ q = q') := ⟨H1.out, hq⟩
            have hq' : (q == q') = true := by simpa using hq
            clear hq HQ hf hff
            go_wp2
            go_quiet (fail)
            go_wp2
            go_roundw
            case rel => exact ⟨_, rfl, .inr (.inr (.inl ⟨rfl, HN⟩))⟩
            case measure => simp [intOf]
          · have hans := HQ.out hq
            rw [← hans] at hff
            have hq' : (q == q') = false := by simpa using hq
            clear HQ hans hq
            go_wp2
            go_quiet (fail)
            go_wp2_with (go_at_call 32; refine (hff _).mono ?_; rintro e w' ⟨rfl, rfl⟩)
            go_ret
            exact ⟨rfl, HG.out _⟩
        · have HQ : Hid (r ≠ r' → ans = ffT r) := fun hq => by rw [HA.out]; simp [E0, E1, E2, H1.out.1, H1.out.2, hq]
          have hff := fun w => hf r w
          clear E0 E1 E2
          by_cases hq : r = r'
          · have HN : Hid (p = p' ∧ q = q' ∧ r = r') := ⟨H1.out.1, H1.out.2, hq⟩
            have hq' : (r == r') = true := by simpa using hq
            clear hq HQ hf hff
            go_wp2
            go_quiet (fail)
            go_wp2
            go_roundw
            case rel => exact ⟨_, rfl, .inr (.inr (.inr ⟨rfl, HN⟩))⟩
            case measure => simp [intOf]
          · have hans := HQ.out hq
            rw [← hans] at hff
            have hq' : (r == r') = false := by simpa using hq
            clear HQ hans hq
            go_wp2
            go_quiet (fail)
            go_wp2_with (go_at_call 32; refine (hff _).mono ?_; rintro e w' ⟨rfl, rfl⟩)
            go_ret
            exact ⟨rfl, HG.out _⟩
        · obtain rfl : ans = 0 := by
            obtain ⟨F0, F1, F2⟩ := H1.out
            rw [HA.out]; simp [E0, E1, E2, F0, F1, F2]
          clear E0 E1 E2
          go_wp2
          go_ret
          exact ⟨rfl, HG.out _⟩

end Go.Proofs.YtanhhlekbdhfmaaDoor

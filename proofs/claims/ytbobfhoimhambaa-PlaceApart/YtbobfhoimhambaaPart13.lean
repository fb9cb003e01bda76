/-
  pos.Step: the midplane some steps on, for every input; nothing that lay before is turned.
-/
import Derived.Test.YtbobfhoimhambaaPart7
import Derived.Test.YtbobfhoimhambaaPart5
namespace Go.Proofs.Ytbobfhoimhambaa
open Go.RowKit Go.Shelf

attribute [local go_sem] Oper.semAt_some ext_const

theorem around_calls {k n : Int} (w : World) (hk : -n < k) (hk2 : k ≤ 1000) (h1 : 1 ≤ n) (h2 : n ≤ 16) :
    Calls Try.prog 58 #[I k, I n] w fun e w' => e = .returned (I (k % n)) ∧ w' = w := by
  have E : Hid ((k + n) % n = k % n) := Int.add_emod_right k n
  go_enter Try.func58, Try.ntmps58
  go_wp2
  go_ret
  rw [← E.out]
  exact ⟨rfl, rfl⟩

set_option maxHeartbeats 400000 in
theorem step_err {d0 d1 d2 : Int} (m axis by_ e : Int) (w : World) (he : (e != 0) = true)
    (hc : ∀ w, Calls Try.prog 57 #[A3 d0 d1 d2, I m] w fun x W' => x = .returned (.tuple #[A3 0 0 0, I e]) ∧ Below w.heap.size w W') :
    Calls Try.prog 53 #[A3 d0 d1 d2, I m, I axis, I by_] w fun x W' => x = .returned (.tuple #[I 0, I e]) ∧ Below w.heap.size w W' := by
  have HH : Hid (∀ w, Calls Try.prog 57 #[A3 d0 d1 d2, I m] w fun x W' => x = .returned (.tuple #[A3 0 0 0, I e]) ∧ Below w.heap.size w W') := hc
  clear hc
  go_enter Try.func53, Try.ntmps53
  go_wp2_with fail
  refine (HH.out _).mono ?_
  rintro x w1 ⟨rfl, hB⟩
  go_wp2
  go_ret2
  exact ⟨rfl, (((Below.refl _ w).alloc (Nat.le_refl _) _).trans (hB.mono (by simp))).alloc (by have := hB.size; simp at this; omega) _⟩

set_option maxHeartbeats 400000 in
theorem step_axis {d0 d1 d2 m axis by_ : Int} (w : World) (hm : mayD d0 d1 d2) (hn : 0 ≤ m ∧ m < d0 * d1 * d2) (ha : ¬ (0 ≤ axis ∧ axis < 3)) :
    Calls Try.prog 53 #[A3 d0 d1 d2, I m, I axis, I by_] w fun x W' => x = .returned (.tuple #[I 0, I 2]) ∧ Below w.heap.size w W' := by
  have hb : belowB axis 3 = false := by simp [belowB]; omega
  have HN : Hid (0 ≤ m ∧ m < d0 * d1 * d2) := hn
  clear hn ha
  go_enter Try.func53, Try.ntmps53
  go_wp2_with fail
  refine (of_yes _ hm HN.out).mono ?_
  rintro x w1 ⟨rfl, hB⟩
  go_wp2_with fail
  refine (below_calls _ _ _).mono ?_
  rintro x w2 ⟨rfl, rfl⟩
  go_wp2
  go_ret2
  exact ⟨rfl, (((Below.refl _ w).alloc (Nat.le_refl _) _).trans (hB.mono (by simp))).alloc (by have := hB.size; simp at this; omega) _⟩


set_option maxRecDepth 100000 in
set_option maxHeartbeats 1000000 in
theorem step_yes {d0 d1 d2 m by_ : Int} (w : World) (hm : mayD d0 d1 d2) (hn : 0 ≤ m ∧ m < d0 * d1 * d2) (k : Fin 3) :
    Calls Try.prog 53 #[A3 d0 d1 d2, I m, I (axI k), I by_] w fun x W' => x = .returned (.tuple #[I (onD d0 d1 d2 m k by_), I 0]) ∧ Below w.heap.size w W' := by
  have HN : Hid (0 ≤ m ∧ m < d0 * d1 * d2) := hn
  have hin := inD_of_node hm hn
  have hon := inD_on hm hn by_
  have hd := hm
  unfold inD at hin
  unfold mayD okD at hd
  clear hn
  rcases fin3 k with rfl | rfl | rfl
  · simp only [axI, onD]
    have hb : belowB 0 3 = true := by simp [belowB]
    obtain ⟨ht1, ht2, ht3⟩ := tmod_bd by_ d0 (by omega)
    have HT : Hid ((cx d0 m + by_.tmod d0) % d0 = (cx d0 m + by_) % d0) := ht3 _
    clear ht3
    go_enter Try.func53, Try.ntmps53
    go_wp2_with fail
    refine (of_yes _ hm HN.out).mono ?_
    rintro x w1 ⟨rfl, hB⟩
    go_wp2_with fail
    refine (below_calls _ _ _).mono ?_
    rintro x w2 ⟨rfl, rfl⟩
    go_wp2_with fail
    obtain ⟨W, hW⟩ : ∃ W, w1.alloc (.cells #[I (cx d0 m), I (cy d0 d1 m), I (cz d0 d1 m)] 22) = W := ⟨_, rfl⟩
    have q0 : Blk W w.heap.size 23 #[I d0, I d1, I d2] := hW ▸ ((Blk.new w 23 #[I d0, I d1, I d2]).later hB).alloc _
    have q1 : Blk W w1.heap.size 22 #[I (cx d0 m), I (cy d0 d1 m), I (cz d0 d1 m)] := hW ▸ Blk.new w1 _ _
    have hz : w.heap.size < w1.heap.size := by have := hB.size; simp at this; omega
    have hBW : Below w.heap.size w W := hW ▸ (((Below.refl _ w).alloc (Nat.le_refl _) _).trans (hB.mono (by simp))).alloc (by omega) _
    rw [hW]
    clear hW hB
    have hmx : Try.prog.follows .mixedOrders = true := by kernel_rfl
    have e0 := Ext.cell q0 0
    have e1 := Ext.cell q1 0
    simp at e0 e1
    refine wp_region_tail 15 hmx (by kernel_rfl) ?_
    simp only [List.take_succ_cons, List.take_zero, List.drop_succ_cons, List.drop_zero]
    repeat (go_big_quiet_step (exact calls_ext_same (around_calls _ (by omega) (by omega) (by omega) (by omega))))
    refine wpQuiet_nil ?_
    intro x
    have r0 := q0.later x.le
    have r1 := q1.later x.le
    have c1 := r1.cell 0
    have f1 := r1.frozen 0
    simp at c1
    gi_wp2
    rw [HT.out]
    have r0' := r0.other (B' := w1.heap.size) 0 (.int .i64 ((cx d0 m + by_) % d0)) (by omega)
    have r1' := r1.set 0 (.int .i64 ((cx d0 m + by_) % d0))
    have hBX := (below_ext hBW x).setCell (p := ⟨w1.heap.size, 0, none⟩) (by simp; omega) (.int .i64 ((cx d0 m + by_) % d0))
    generalize x.wd.setCell ⟨w1.heap.size, 0, none⟩ (.int .i64 ((cx d0 m + by_) % d0)) = W5 at *
    clear e0 e1 c1 f1 r0 r1 q0 q1 hBW
    have c0 := r0'.cell 0
    have c1 := r0'.cell 1
    have c2 := r0'.cell 2
    have k0 := r1'.cell 0
    have k1 := r1'.cell 1
    have k2 := r1'.cell 2
    simp at c0 c1 c2 k0 k1 k2
    go_wp2_with fail
    refine (at_yes _ hm hon.1).mono ?_
    rintro e w6 ⟨rfl, hB6⟩
    go_wp2
    go_ret2
    exact ⟨rfl, hBX.trans (hB6.mono hBX.size)⟩
  · simp only [axI, onD]
    have hb : belowB 1 3 = true := by simp [belowB]
    obtain ⟨ht1, ht2, ht3⟩ := tmod_bd by_ d1 (by omega)
    have HT : Hid ((cy d0 d1 m + by_.tmod d1) % d1 = (cy d0 d1 m + by_) % d1) := ht3 _
    clear ht3
    go_enter Try.func53, Try.ntmps53
    go_wp2_with fail
    refine (of_yes _ hm HN.out).mono ?_
    rintro x w1 ⟨rfl, hB⟩
    go_wp2_with fail
    refine (below_calls _ _ _).mono ?_
    rintro x w2 ⟨rfl, rfl⟩
    go_wp2_with fail
    obtain ⟨W, hW⟩ : ∃ W, w1.alloc (.cells #[I (cx d0 m), I (cy d0 d1 m), I (cz d0 d1 m)] 22) = W := ⟨_, rfl⟩
    have q0 : Blk W w.heap.size 23 #[I d0, I d1, I d2] := hW ▸ ((Blk.new w 23 #[I d0, I d1, I d2]).later hB).alloc _
    have q1 : Blk W w1.heap.size 22 #[I (cx d0 m), I (cy d0 d1 m), I (cz d0 d1 m)] := hW ▸ Blk.new w1 _ _
    have hz : w.heap.size < w1.heap.size := by have := hB.size; simp at this; omega
    have hBW : Below w.heap.size w W := hW ▸ (((Below.refl _ w).alloc (Nat.le_refl _) _).trans (hB.mono (by simp))).alloc (by omega) _
    rw [hW]
    clear hW hB
    have hmx : Try.prog.follows .mixedOrders = true := by kernel_rfl
    have e0 := Ext.cell q0 1
    have e1 := Ext.cell q1 1
    simp at e0 e1
    refine wp_region_tail 15 hmx (by kernel_rfl) ?_
    simp only [List.take_succ_cons, List.take_zero, List.drop_succ_cons, List.drop_zero]
    repeat (go_big_quiet_step (exact calls_ext_same (around_calls _ (by omega) (by omega) (by omega) (by omega))))
    refine wpQuiet_nil ?_
    intro x
    have r0 := q0.later x.le
    have r1 := q1.later x.le
    have c1 := r1.cell 1
    have f1 := r1.frozen 1
    simp at c1
    gi_wp2
    rw [HT.out]
    have r0' := r0.other (B' := w1.heap.size) 1 (.int .i64 ((cy d0 d1 m + by_) % d1)) (by omega)
    have r1' := r1.set 1 (.int .i64 ((cy d0 d1 m + by_) % d1))
    have hBX := (below_ext hBW x).setCell (p := ⟨w1.heap.size, 1, none⟩) (by simp; omega) (.int .i64 ((cy d0 d1 m + by_) % d1))
    generalize x.wd.setCell ⟨w1.heap.size, 1, none⟩ (.int .i64 ((cy d0 d1 m + by_) % d1)) = W5 at *
    clear e0 e1 c1 f1 r0 r1 q0 q1 hBW
    have c0 := r0'.cell 0
    have c1 := r0'.cell 1
    have c2 := r0'.cell 2
    have k0 := r1'.cell 0
    have k1 := r1'.cell 1
    have k2 := r1'.cell 2
    simp at c0 c1 c2 k0 k1 k2
    go_wp2_with fail
    refine (at_yes _ hm hon.2.1).mono ?_
    rintro e w6 ⟨rfl, hB6⟩
    go_wp2
    go_ret2
    exact ⟨rfl, hBX.trans (hB6.mono hBX.size)⟩
  · simp only [axI, onD]
    have hb : belowB 2 3 = true := by simp [belowB]
    obtain ⟨ht1, ht2, ht3⟩ := tmod_bd by_ d2 (by omega)
    have HT : Hid ((cz d0 d1 m + by_.tmod d2) % d2 = (cz d0 d1 m + by_) % d2) := ht3 _
    clear ht3
    go_enter Try.func53, Try.ntmps53
    go_wp2_with fail
    refine (of_yes _ hm HN.out).mono ?_
    rintro x w1 ⟨rfl, hB⟩
    go_wp2_with fail
    refine (below_calls _ _ _).mono ?_
    rintro x w2 ⟨rfl, rfl⟩
    go_wp2_with fail
    obtain ⟨W, hW⟩ : ∃ W, w1.alloc (.cells #[I (cx d0 m), I (cy d0 d1 m), I (cz d0 d1 m)] 22) = W := ⟨_, rfl⟩
    have q0 : Blk W w.heap.size 23 #[I d0, I d1, I d2] := hW ▸ ((Blk.new w 23 #[I d0, I d1, I d2]).later hB).alloc _
    have q1 : Blk W w1.heap.size 22 #[I (cx d0 m), I (cy d0 d1 m), I (cz d0 d1 m)] := hW ▸ Blk.new w1 _ _
    have hz : w.heap.size < w1.heap.size := by have := hB.size; simp at this; omega
    have hBW : Below w.heap.size w W := hW ▸ (((Below.refl _ w).alloc (Nat.le_refl _) _).trans (hB.mono (by simp))).alloc (by omega) _
    rw [hW]
    clear hW hB
    have hmx : Try.prog.follows .mixedOrders = true := by kernel_rfl
    have e0 := Ext.cell q0 2
    have e1 := Ext.cell q1 2
    simp at e0 e1
    refine wp_region_tail 15 hmx (by kernel_rfl) ?_
    simp only [List.take_succ_cons, List.take_zero, List.drop_succ_cons, List.drop_zero]
    repeat (go_big_quiet_step (exact calls_ext_same (around_calls _ (by omega) (by omega) (by omega) (by omega))))
    refine wpQuiet_nil ?_
    intro x
    have r0 := q0.later x.le
    have r1 := q1.later x.le
    have c1 := r1.cell 2
    have f1 := r1.frozen 2
    simp at c1
    gi_wp2
    rw [HT.out]
    have r0' := r0.other (B' := w1.heap.size) 2 (.int .i64 ((cz d0 d1 m + by_) % d2)) (by omega)
    have r1' := r1.set 2 (.int .i64 ((cz d0 d1 m + by_) % d2))
    have hBX := (below_ext hBW x).setCell (p := ⟨w1.heap.size, 2, none⟩) (by simp; omega) (.int .i64 ((cz d0 d1 m + by_) % d2))
    generalize x.wd.setCell ⟨w1.heap.size, 2, none⟩ (.int .i64 ((cz d0 d1 m + by_) % d2)) = W5 at *
    clear e0 e1 c1 f1 r0 r1 q0 q1 hBW
    have c0 := r0'.cell 0
    have c1 := r0'.cell 1
    have c2 := r0'.cell 2
    have k0 := r1'.cell 0
    have k1 := r1'.cell 1
    have k2 := r1'.cell 2
    simp at c0 c1 c2 k0 k1 k2
    go_wp2_with fail
    refine (at_yes _ hm hon.2.2).mono ?_
    rintro e w6 ⟨rfl, hB6⟩
    go_wp2
    go_ret2
    exact ⟨rfl, hBX.trans (hB6.mono hBX.size)⟩

end Go.Proofs.Ytbobfhoimhambaa

/-
  wire.checkLine, wire.wired, wire.Many, wire.Link, wire.Ends: what each call answers, for every input; nothing that lay before is turned.
-/
namespace Go.Proofs.Ytbobfhoimhambaa
open Go.RowKit Go.Shelf

attribute [local go_sem] Oper.semAt_some ext_const

/-- An axis that may be, and a midplane. -/
def lineOk (d0 d1 d2 axis m : Int) : Prop := (0 ≤ m ∧ m < d0 * d1 * d2) ∧ (0 ≤ axis ∧ axis < 3)
/-- What is refused, and with which error. -/
def Refused (d0 d1 d2 axis m e : Int) : Prop := (¬ mayD d0 d1 d2 ∧ e = 8) ∨ (mayD d0 d1 d2 ∧ ¬ lineOk d0 d1 d2 axis m ∧ e = 2)

theorem Refused.ne {d0 d1 d2 axis m e : Int} (h : Refused d0 d1 d2 axis m e) : (e != 0) = true := by
  rcases h with ⟨_, rfl⟩ | ⟨_, _, rfl⟩ <;> decide
theorem refused_or (d0 d1 d2 axis m : Int) : (∃ e, Refused d0 d1 d2 axis m e) ∨ (mayD d0 d1 d2 ∧ (0 ≤ m ∧ m < d0 * d1 * d2) ∧ ∃ k : Fin 3, axis = axI k) := by
  by_cases h : mayD d0 d1 d2
  · by_cases h' : lineOk d0 d1 d2 axis m
    · refine .inr ⟨h, h'.1, ?_⟩
      have := h'.2
      have : axis = 0 ∨ axis = 1 ∨ axis = 2 := by omega
      rcases this with rfl | rfl | rfl
      · exact ⟨0, rfl⟩
      · exact ⟨1, rfl⟩
      · exact ⟨2, rfl⟩
    · exact .inl ⟨2, .inr ⟨h, h', rfl⟩⟩
  · exact .inl ⟨8, .inl ⟨h, rfl⟩⟩

theorem step_ref {d0 d1 d2 axis m e : Int} (by_ : Int) (w : World) (h : Refused d0 d1 d2 axis m e) :
    Calls Try.prog 53 #[A3 d0 d1 d2, I m, I axis, I by_] w fun x W' => x = .returned (.tuple #[I 0, I e]) ∧ Below w.heap.size w W' := by
  rcases h with ⟨h, rfl⟩ | ⟨h, h', rfl⟩
  · exact step_err m axis by_ 8 w (by decide) (fun w => of_bad m w h)
  · by_cases hn : 0 ≤ m ∧ m < d0 * d1 * d2
    · exact step_axis w h hn (fun ha => h' ⟨hn, ha⟩)
    · exact step_err m axis by_ 2 w (by decide) (fun w => of_no w h hn)

set_option maxHeartbeats 400000 in
theorem checkl_of {d0 d1 d2 axis m : Int} (r e : Int) (w : World) (hc : ∀ w, Calls Try.prog 53 #[A3 d0 d1 d2, I m, I axis, I 0] w fun x W' => x = .returned (.tuple #[I r, I e]) ∧ Below w.heap.size w W') :
    Calls Try.prog 50 #[A3 d0 d1 d2, I axis, I m] w fun x W' => x = .returned (I e) ∧ Below w.heap.size w W' := by
  have HH : Hid (∀ w, Calls Try.prog 53 #[A3 d0 d1 d2, I m, I axis, I 0] w fun x W' => x = .returned (.tuple #[I r, I e]) ∧ Below w.heap.size w W') := hc
  clear hc
  go_enter Try.func50, Try.ntmps50
  go_wp2_with fail
  refine (HH.out _).mono ?_
  rintro x w1 ⟨rfl, hB⟩
  go_wp2
  go_ret
  exact ⟨rfl, then_below ((Below.refl _ w).alloc (Nat.le_refl _) _) hB⟩

theorem checkl_ref {d0 d1 d2 axis m e : Int} (w : World) (h : Refused d0 d1 d2 axis m e) :
    Calls Try.prog 50 #[A3 d0 d1 d2, I axis, I m] w fun x W' => x = .returned (I e) ∧ Below w.heap.size w W' :=
  checkl_of 0 e w fun w => step_ref 0 w h
theorem checkl_yes {d0 d1 d2 axis m : Int} (w : World) (hm : mayD d0 d1 d2) (hn : 0 ≤ m ∧ m < d0 * d1 * d2) {k : Fin 3} (hk : axis = axI k) :
    Calls Try.prog 50 #[A3 d0 d1 d2, I axis, I m] w fun x W' => x = .returned (I 0) ∧ Below w.heap.size w W' := by
  subst hk
  exact checkl_of _ 0 w fun w => step_yes w hm hn k

set_option maxHeartbeats 400000 in
theorem wired_calls {d0 d1 d2 axis : Int} (w : World) {k : Fin 3} (hk : axis = axI k) {b : Bool} (hb : b = decide (1 < dimAt d0 d1 d2 k)) :
    Calls Try.prog 61 #[A3 d0 d1 d2, I axis] w fun x W' => x = .returned (.bool b) ∧ Below w.heap.size w W' := by
  have HB : Hid (b = decide (1 < dimAt d0 d1 d2 k)) := hb
  clear hb
  subst hk
  rcases fin3 k with rfl | rfl | rfl
  all_goals
    simp only [axI, dimAt] at HB ⊢
    go_enter Try.func61, Try.ntmps61
    go_wp2
    go_ret
    exact ⟨by rw [HB.out]; rfl, (Below.refl _ w).alloc (Nat.le_refl _) _⟩

set_option maxHeartbeats 400000 in
theorem wmany_no {d0 d1 d2 : Int} (w : World) (hm : ¬ mayD d0 d1 d2) :
    Calls Try.prog 13 #[A3 d0 d1 d2] w fun e W' => e = .returned (.tuple #[I 0, I 8]) ∧ Below w.heap.size w W' := by
  go_enter Try.func13, Try.ntmps13
  go_wp2_with fail
  refine (many_no _ hm).mono ?_
  rintro e w1 ⟨rfl, hB⟩
  go_wp2
  go_ret2
  exact ⟨rfl, then_below ((Below.refl _ w).alloc (Nat.le_refl _) _) hB⟩
set_option maxHeartbeats 400000 in
theorem wmany_yes {d0 d1 d2 : Int} (w : World) (hm : mayD d0 d1 d2) :
    Calls Try.prog 13 #[A3 d0 d1 d2] w fun e W' => e = .returned (.tuple #[I (3 * (d0 * d1 * d2)), I 0]) ∧ Below w.heap.size w W' := by
  have hN := N_bd hm
  have HM : Hid (∀ w, Calls Try.prog 12 #[A3 d0 d1 d2] w fun e W' => e = .returned (.tuple #[I (d0 * d1 * d2), I 0]) ∧ Below w.heap.size w W') := fun w => many_yes w hm
  generalize d0 * d1 * d2 = N at *
  go_enter Try.func13, Try.ntmps13
  go_wp2_with fail
  refine (HM.out _).mono ?_
  rintro e w1 ⟨rfl, hB⟩
  go_wp2
  go_ret2
  exact ⟨rfl, then_below ((Below.refl _ w).alloc (Nat.le_refl _) _) hB⟩

set_option maxHeartbeats 400000 in
theorem link_ref {d0 d1 d2 axis m e : Int} (w : World) (h : Refused d0 d1 d2 axis m e) :
    Calls Try.prog 56 #[A3 d0 d1 d2, I axis, I m] w fun x W' => x = .returned (.tuple #[I 0, I e]) ∧ Below w.heap.size w W' := by
  have he := h.ne
  have H : Hid (Refused d0 d1 d2 axis m e) := h
  clear h
  go_enter Try.func56, Try.ntmps56
  go_wp2_with fail
  refine (checkl_ref _ H.out).mono ?_
  rintro x w1 ⟨rfl, hB⟩
  go_wp2
  go_ret2
  exact ⟨rfl, then_below ((Below.refl _ w).alloc (Nat.le_refl _) _) hB⟩

set_option maxHeartbeats 400000 in
theorem link_none {d0 d1 d2 axis m : Int} (w : World) (hm : mayD d0 d1 d2) (hn : 0 ≤ m ∧ m < d0 * d1 * d2) {k : Fin 3} (hk : axis = axI k) (h1 : ¬ 1 < dimAt d0 d1 d2 k) :
    Calls Try.prog 56 #[A3 d0 d1 d2, I axis, I m] w fun x W' => x = .returned (.tuple #[I 0, I 6]) ∧ Below w.heap.size w W' := by
  have HN : Hid (0 ≤ m ∧ m < d0 * d1 * d2) := hn
  have HK : Hid (axis = axI k) := hk
  have HW : Hid (false = decide (1 < dimAt d0 d1 d2 k)) := (decide_eq_false h1).symm
  clear hn hk h1
  go_enter Try.func56, Try.ntmps56
  go_wp2_with fail
  refine (checkl_yes _ hm HN.out HK.out).mono ?_
  rintro x w1 ⟨rfl, hB⟩
  have g0 := (Blk.new w 23 #[I d0, I d1, I d2]).later hB
  have c0 := g0.cell 0
  have c1 := g0.cell 1
  have c2 := g0.cell 2
  simp at c0 c1 c2
  go_wp2_with fail
  refine (wired_calls _ HK.out HW.out).mono ?_
  rintro x w2 ⟨rfl, hB2⟩
  go_wp2
  go_ret2
  exact ⟨rfl, then_below (then_below ((Below.refl _ w).alloc (Nat.le_refl _) _) hB) hB2⟩

theorem cab_wrap {d0 d1 d2 m : Int} (hm : mayD d0 d1 d2) (hn : 0 ≤ m ∧ m < d0 * d1 * d2) (k : Fin 3) : wrap64 (wrap64 (axI k * (d0 * d1 * d2)) + m) = cabW d0 d1 d2 k m := by
  have hN := N_bd hm
  unfold cabW
  generalize d0 * d1 * d2 = N at *
  match k with
  | 0 => simp only [axI]; unfold wrap64; omega
  | 1 => simp only [axI]; unfold wrap64; omega
  | 2 => simp only [axI]; unfold wrap64; omega

set_option maxHeartbeats 400000 in
theorem link_yes {d0 d1 d2 axis m : Int} (w : World) (hm : mayD d0 d1 d2) (hn : 0 ≤ m ∧ m < d0 * d1 * d2) {k : Fin 3} (hk : axis = axI k) (h1 : 1 < dimAt d0 d1 d2 k) :
    Calls Try.prog 56 #[A3 d0 d1 d2, I axis, I m] w fun x W' => x = .returned (.tuple #[I (cabW d0 d1 d2 k m), I 0]) ∧ Below w.heap.size w W' := by
  have hcw := cab_wrap hm hn k
  rw [← hk] at hcw
  have HN : Hid (0 ≤ m ∧ m < d0 * d1 * d2) := hn
  have HM : Hid (∀ w, Calls Try.prog 12 #[A3 d0 d1 d2] w fun e W' => e = .returned (.tuple #[I (d0 * d1 * d2), I 0]) ∧ Below w.heap.size w W') := fun w => many_yes w hm
  have HL : Hid (∀ w, Calls Try.prog 50 #[A3 d0 d1 d2, I axis, I m] w fun x W' => x = .returned (I 0) ∧ Below w.heap.size w W') := fun w => checkl_yes w hm hn hk
  have HW : Hid (∀ w, Calls Try.prog 61 #[A3 d0 d1 d2, I axis] w fun x W' => x = .returned (.bool true) ∧ Below w.heap.size w W') := fun w => wired_calls w hk (decide_eq_true h1).symm
  generalize cabW d0 d1 d2 k m = c at *
  generalize d0 * d1 * d2 = N at *
  have HC : Hid (wrap64 (wrap64 (axis * N) + m) = c) := hcw
  clear hcw hn hk h1 HN
  go_enter Try.func56, Try.ntmps56
  go_wp2_with fail
  refine (HL.out _).mono ?_
  rintro x w1 ⟨rfl, hB⟩
  have g0 := (Blk.new w 23 #[I d0, I d1, I d2]).later hB
  have c0 := g0.cell 0
  have c1 := g0.cell 1
  have c2 := g0.cell 2
  simp at c0 c1 c2
  go_wp2_with fail
  refine (HW.out _).mono ?_
  rintro x w2 ⟨rfl, hB2⟩
  have g1 := g0.later hB2
  have k0 := g1.cell 0
  have k1 := g1.cell 1
  have k2 := g1.cell 2
  simp at k0 k1 k2
  go_wp2_with fail
  refine (HM.out _).mono ?_
  rintro x w3 ⟨rfl, hB3⟩
  go_wp2
  go_ret2
  exact ⟨by rw [HC.out]; rfl, then_below (then_below (then_below ((Below.refl _ w).alloc (Nat.le_refl _) _) hB) hB2) hB3⟩

end Go.Proofs.Ytbobfhoimhambaa

/-
  wire.Ends: what it answers, for every input; nothing that lay before is turned.
-/
namespace Go.Proofs.Ytbobfhoimhambaa
open Go.RowKit Go.Shelf

attribute [local go_sem] Oper.semAt_some ext_const

theorem results_tmp4 {fn : Func} {t u v x : Tmp} (h : fn.results = #[.tmp t, .tmp u, .tmp v, .tmp x]) (tmps : Array Value) (P : Program) (w : World) :
    (results fn tmps).run P w = .ok (.tuple #[tmps.getD t undef, tmps.getD u undef, tmps.getD v undef, tmps.getD x undef]) w := by
  simp [results, h]

/-- Each number of a cable is an axis and a midplane. -/
theorem cab_of {d0 d1 d2 link : Int} (h : mayD d0 d1 d2) (hl : 0 ≤ link ∧ link < 3 * (d0 * d1 * d2)) : ∃ (k : Fin 3) (m : Int), (0 ≤ m ∧ m < d0 * d1 * d2) ∧ link = cabW d0 d1 d2 k m := by
  have hN := N_bd h
  unfold cabW
  generalize d0 * d1 * d2 = N at *
  by_cases h1 : link < N
  · exact ⟨0, link, by omega, by simp only [axI]; omega⟩
  · by_cases h2 : link < 2 * N
    · exact ⟨1, link - N, by omega, by simp only [axI]; omega⟩
    · exact ⟨2, link - 2 * N, by omega, by simp only [axI]; omega⟩

end Go.Proofs.Ytbobfhoimhambaa

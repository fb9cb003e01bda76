/-
  Whether two sets meet, and whether one is in the other one, as the document tells it: tidehallref03.Meets, Meet, Inside, In.
-/
import Derived.Test.YtbobfhoimhambaaGreatDoorPart13
import Derived.Test.YtbobfhoimhambaaGreatDoorPart7
import Derived.Test.YtbobfhoimhambaaGreatDoorPart5
namespace Go.Proofs.YtbobfhoimhambaaGreatDoor
open Go Go.RowKit Go.Shelf

def anyB (a b : List Nat) : Bool := (List.range (64 * a.length)).any fun j => hasW a j && hasW b j
def allB (a b : List Nat) : Bool := (List.range (64 * a.length)).all fun j => !hasW a j || hasW b j
theorem anyB_eq (a b : List Nat) : anyB a b = (numsW a).any fun j => hasW b j := by
  unfold anyB numsW listTo
  rw [List.any_filter]
theorem allB_eq (a b : List Nat) : allB a b = (numsW a).all fun j => hasW b j := by
  unfold allB numsW listTo
  rw [List.all_filter]
theorem any_hit {a b : List Nat} {k : Nat} (hk : k < (numsW a).length) (h : hasW b ((numsW a).getD k 0) = true) : anyB a b = true := by
  rw [anyB_eq, List.any_eq_true]
  refine ⟨(numsW a)[k], List.getElem_mem hk, ?_⟩
  simpa [hk] using h
theorem all_hit {a b : List Nat} {k : Nat} (hk : k < (numsW a).length) (h : hasW b ((numsW a).getD k 0) = false) : allB a b = false := by
  rw [allB_eq]
  cases e : (numsW a).all fun j => hasW b j
  · rfl
  · have := List.all_eq_true.1 e ((numsW a)[k]) (List.getElem_mem hk)
    simp [hk] at h
    simp [h] at this
theorem any_none {a b : List Nat} (h : ∀ j, j < (numsW a).length → hasW b ((numsW a).getD j 0) = false) : anyB a b = false := by
  rw [anyB_eq]
  cases e : (numsW a).any fun j => hasW b j
  · rfl
  · obtain ⟨x, hx, hb⟩ := List.any_eq_true.1 e
    obtain ⟨k, hk, rfl⟩ := List.mem_iff_getElem.1 hx
    have := h k hk
    simp [hk] at this
    rw [this] at hb; cases hb
theorem all_all {a b : List Nat} (h : ∀ j, j < (numsW a).length → hasW b ((numsW a).getD j 0) = true) : allB a b = true := by
  rw [allB_eq, List.all_eq_true]
  intro x hx
  obtain ⟨k, hk, rfl⟩ := List.mem_iff_getElem.1 hx
  have := h k hk
  simpa [hk] using this
theorem numsW_lt {a : List Nat} {k : Nat} : (numsW a).getD k 0 ≤ 64 * a.length := by
  by_cases hk : k < (numsW a).length
  · have := (listTo_mem.1 (List.getElem_mem hk)).1
    simp [hk]
    exact Nat.le_of_lt this
  · simp [Nat.not_lt.1 hk]
theorem numsW_len (a : List Nat) : (numsW a).length ≤ 64 * a.length := listTo_len a _

set_option maxRecDepth 100000 in
set_option maxHeartbeats 4000000 in
theorem meetsS_calls {va vb : Value} {a b : List Nat} (w : World) (ha : Wds w va a) (hb : Wds w vb b) (hs : a.length ≤ 300) :
    Calls Tryz.prog 26 #[va, vb] w fun e W' => e = .returned (.bool (anyB a b)) ∧ Below w.heap.size w W' := by
  have HB : Hid (Wds w vb b) := hb
  have C := all_calls w ha hs
  obtain ⟨ans, hans⟩ : ∃ ans, ans = anyB a b := ⟨_, rfl⟩
  rw [← hans]
  have HS : Hid (ans = anyB a b) := hans
  clear hans
  have hnl : (numsW a).length ≤ 19200 := by have := numsW_len a; omega
  go_enter Tryz.func26, Tryz.ntmps26
  go_wp2_with fail
  refine C.mono ?_
  rintro e w1 ⟨u, rfl, hL, hT⟩
  obtain ⟨ao, cap, rfl, hv⟩ := hL.its.view
  rw [ofN_len] at hv ⊢
  have HV : Hid (∀ k, k < (numsW a).length → ∃ g off, ao = some ⟨g, off, none⟩ ∧ g < w1.heap.size ∧ w1.cell? ⟨g, off + k, none⟩ = some (I ((ofN (numsW a)).getD k 0))) := hv
  clear hv hL C
  go_wp2
  go_loopw [6] (fun i wr => ∃ k : Nat, k ≤ (numsW a).length ∧ i = .int .i64 k ∧ Hid (∀ j, j < k → hasW b ((numsW a).getD j 0) = false) ∧ wr = w1) (fun i _ => (numsW a).length - (intOf i).toNat)
  case atStart => exact ⟨0, by omega, rfl, fun j hj => by omega, rfl⟩
  case round =>
    obtain ⟨k, hk, rfl, HT, hw⟩ := hrel
    subst hw
    by_cases hlt : (k : Int) < ((numsW a).length : Int)
    · have hkl : k < (numsW a).length := by omega
      obtain ⟨g, off, rfl, hg, hc⟩ := HV.out k hkl
      rw [ofN_get] at hc
      have TH := there_calls wr (HB.out.later hT) ((numsW a).getD k 0) (by have := numsW_lt (a := a) (k := k); omega)
      have H1 : Hid (hasW b ((numsW a).getD k 0) = true → ans = true) := fun h => by rw [HS.out]; exact any_hit hkl h
      have H0 : Hid (hasW b ((numsW a).getD k 0) = false → ∀ j, j < k + 1 → hasW b ((numsW a).getD j 0) = false) := fun h j hj => by
        rcases Nat.lt_succ_iff_lt_or_eq.1 hj with hj | rfl
        · exact HT.out j hj
        · exact h
      generalize hasW b ((numsW a).getD k 0) = q at *
      generalize (numsW a).getD k 0 = x at *
      go_wp2_with fail
      refine TH.mono ?_
      rintro e w2 ⟨rfl, hw⟩
      subst hw
      cases q
      · have HE : Hid _ := H0.out rfl
        go_wp2
        go_roundw
        case rel => exact ⟨k + 1, by omega, by go_num, HE.out, by trivial⟩
        case measure => simp [intOf]; omega
      · have E := H1.out rfl
        subst E
        go_wp2
        go_ret
        exact ⟨rfl, hT⟩
    · have E : ans = false := by rw [HS.out]; exact any_none (fun j hj => HT.out j (by omega))
      subst E
      go_wp2
      go_ret
      exact ⟨rfl, hT⟩

end Go.Proofs.YtbobfhoimhambaaGreatDoor

/-
  pos.Step: the midplane some steps on, for every input; nothing that lay before is turned.
-/
namespace Go.Proofs.YtbobfhoimhambaaGreatDoor
open Go.RowKit Go.Shelf

attribute [local go_sem] Oper.semAt_some ext_const

theorem around_calls {k n : Int} (w : World) (hk : -n < k) (hk2 : k ≤ 1000) (h1 : 1 ≤ n) (h2 : n ≤ 16) :
    Calls Tryz.prog 79 #[I k, I n] w fun e w' => e = .returned (I (k % n)) ∧ w' = w := by
  have E : Hid ((k + n) % n = k % n) := Int.add_emod_right k n
  go_enter Tryz.func79, Tryz.ntmps79
  go_wp2
  go_ret
  rw [← E.out]
  exact ⟨rfl, rfl⟩

set_option maxHeartbeats 400000 in
theorem step_err {d0 d1 d2 : Int} (m axis by_ e : Int) (w : World) (he : (e != 0) = true)
    (hc : ∀ w, Calls Tryz.prog 78 #[A3 d0 d1 d2, I m] w fun x W' => x = .returned (.tuple #[A3 0 0 0, I e]) ∧ Below w.heap.size w W') :
    Calls Tryz.prog 63 #[A3 d0 d1 d2, I m, I axis, I by_] w fun x W' => x = .returned (.tuple #[I 0, I e]) ∧ Below w.heap.size w W' := by
  have HH : Hid (∀ w, Calls Tryz.prog 78 #[A3 d0 d1 d2, I m] w fun x W' => x = .returned (.tuple #[A3 0 0 0, I e]) ∧ Below w.heap.size w W') := hc
  clear hc
  go_enter Tryz.func63, Tryz.ntmps63
  go_wp2_with fail
  refine (HH.out _).mono ?_
  rintro x w1 ⟨rfl, hB⟩
  go_wp2
  go_ret2
  exact ⟨rfl, (((Below.refl _ w).alloc (Nat.le_refl _) _).trans (hB.mono (by simp))).alloc (by have := hB.size; simp at this; omega) _⟩

set_option maxHeartbeats 400000 in
theorem step_axis {d0 d1 d2 m axis by_ : Int} (w : World) (hm : mayD d0 d1 d2) (hn : 0 ≤ m ∧ m < d0 * d1 * d2) (ha : ¬ (0 ≤ axis ∧ axis < 3)) :
    Calls Tryz.prog 63 #[A3 d0 d1 d2, I m, I axis, I by_] w fun x W' => x = .returned (.tuple #[I 0, I 2]) ∧ Below w.heap.size w W' := by
  have hb : belowB axis 3 = false := by simp [belowB]; omega
  have HN : Hid (0 ≤ m ∧ m < d0 * d1 * d2) := hn
  clear hn ha
  go_enter Tryz.func63, Tryz.ntmps63
  go_wp2_with fail
  refine (of_yes _ hm HN.out).mono ?_
  rintro x w1 ⟨rfl, hB⟩
  go_wp2_with fail
  refine (below_calls _ _ _).mono ?_
  rintro x w2 ⟨rfl, rfl⟩
  go_wp2
  go_ret2
  exact ⟨rfl, (((Below.refl _ w).alloc (Nat.le_refl _) _).trans (hB.mono (by simp))).alloc (by have := hB.size; simp at this; omega) _⟩


set_option maxRecDepth 100000 in
set_option maxHeartbeats 1000000 in
theorem step_yes {d0 d1 d2 m by_ : Int} (w : World) (hm : mayD d0 d1 d2) (hn : 0 ≤ m ∧ m < d0 * d1 * d2) (k : Fin 3) :
    Calls Tryz.prog 63 #[A3 d0 d1 d2, I m, I (axI k), I by_] w fun x W' => x = .returned (.tuple #[I (onD d0 d1 d2 m k by_), I 0]) ∧ Below w.heap.size w W' := by
  have HN : Hid (0 ≤ m ∧ m < d0 * d1 * d2) := hn
  have hin := inD_of_node hm hn
  have hon := inD_on hm hn by_
  have hd := hm
  unfold inD at hin
  unfold mayD okD at hd
  clear hn
  rcases fin3 k with rfl | rfl | rfl
  · simp only [axI, onD]
    have hb : belowB 0 3 = true := by simp [belowB]
    obtain ⟨ht1, ht2, ht3⟩ := tmod_bd by_ d0 (by omega)
    have HT : Hid ((cx d0 m + by_.tmod d0) % d0 = (cx d0 m + by_) % d0) := ht3 _
    clear ht3
    go_enter Tryz.func63, Tryz.ntmps63
    go_wp2_with fail
    refine (of_yes _ hm HN.out).mono ?_
    rintro x w1 ⟨rfl, hB⟩
    go_wp2_with fail
    refine (below_calls _ _ _).mono ?_
    rintro x w2 ⟨rfl, rfl⟩
    go_wp2_with fail
    obtain ⟨W, hW⟩ : ∃ W, w1.alloc (.cells #[I (cx d0 m), I (cy d0 d1 m), I (cz d0 d1 m)] 22) = W := ⟨_, rfl⟩
    have q0 : Blk W w.heap.size 23 #[I d0, I d1, I d2] := hW ▸ ((Blk.new w 23 #[I d0, I d1, I d2]).later hB).alloc _
    have q1 : Blk W w1.heap.size 22 #[I (cx d0 m), I (cy d0 d1 m), I (cz d0 d1 m)] := hW ▸ Blk.new w1 _ _
    have hz : w.heap.size < w1.heap.size := by have := hB.size; simp at this; omega
    have hBW : Below w.heap.size w W := hW ▸ (((Below.refl _ w).alloc (Nat.le_refl _) _).trans (hB.mono (by simp))).alloc (by omega) _
    rw [hW]
    clear hW hB
    have hmx : Tryz.prog.follows .mixedOrders = true := by kernel_rfl
    have e0 := Ext.cell q0 0
    have e1 := Ext.cell q1 0
    simp at e0 e1
    refine wp_region_tail 15 hmx (by kernel_rfl) ?_
    simp only [List.take_succ_cons, List.take_zero, List.drop_succ_cons, List.drop_zero]
    repeat (go_big_quiet_step (exact calls_ext_same (around_calls _ (by omega) (by omega) (by omega) (by omega))))
    refine wpQuiet_nil ?_
    intro x
    have r0 := q0.later x.le
    have r1 := q1.later x.le
    have c1 := r1.cell 0
    have f1 := r1.frozen 0
    simp at c1
    gi_wp2
    rw [HT.out]
    have r0' := r0.other (B' := w1.heap.size) 0 (.int .i64 ((cx d0 m + by_) % d0)) (by omega)
    have r1' := r1.set 0 (.int .i64 ((cx d0 m + by_) % d0))
    have hBX := (below_ext hBW x).setCell (p := ⟨w1.heap.size, 0, none⟩) (by simp; omega) (.int .i64 ((cx d0 m + by_) % d0))
    generalize x.wd.setCell ⟨w1.heap.size, 0, none⟩ (.int .i64 ((cx d0 m + by_) % d0)) = W5 at *
    clear e0 e1 c1 f1 r0 r1 q0 q1 hBW
    have c0 := r0'.cell 0
    have c1 := r0'.cell 1
    have c2 := r0'.cell 2
    have k0 := r1'.cell 0
    have k1 := r1'.cell 1
    have k2 := r1'.cell 2
    simp at c0 c1 c2 k0 k1 k2
    go_wp2_with fail
    refine (at_yes _ hm hon.1).mono ?_
    rintro e w6 ⟨rfl, hB6⟩
    go_wp2
    go_ret2
    exact ⟨rfl, hBX.trans (hB6.mono hBX.size)⟩
  · simp only [axI, onD]
    have hb : belowB 1 3 = true := by simp [belowB]
    obtain ⟨ht1, ht2, ht3⟩ := tmod_bd by_ d1 (by omega)
    have HT : Hid ((cy d0 d1 m + by_.tmod d1) % d1 = (cy d0 d1 m + by_) % d1) := ht3 _
    clear ht3
    go_enter Tryz.func63, Tryz.ntmps63
    go_wp2_with fail
    refine (of_yes _ hm HN.out).mono ?_
    rintro x w1 ⟨rfl, hB⟩
    go_wp2_with fail
    refine (below_calls _ _ _).mono ?_
    rintro x w2 ⟨rfl, rfl⟩
    go_wp2_with fail
    obtain ⟨W, hW⟩ : ∃ W, w1.alloc (.cells #[I (cx d0 m), I (cy d0 d1 m), I (cz d0 d1 m)] 22) = W := ⟨_, rfl⟩
    have q0 : Blk W w.heap.size 23 #[I d0, I d1, I d2] := hW ▸ ((Blk.new w 23 #[I d0, I d1, I d2]).later hB).alloc _
    have q1 : Blk W w1.heap.size 22 #[I (cx d0 m), I (cy d0 d1 m), I (cz d0 d1 m)] := hW ▸ Blk.new w1 _ _
    have hz : w.heap.size < w1.heap.size := by have := hB.size; simp at this; omega
    have hBW : Below w.heap.size w W := hW ▸ (((Below.refl _ w).alloc (Nat.le_refl _) _).trans (hB.mono (by simp))).alloc (by omega) _
    rw [hW]
    clear hW hB
    have hmx : Tryz.prog.follows .mixedOrders = true := by kernel_rfl
    have e0 := Ext.cell q0 1
    have e1 := Ext.cell q1 1
    simp at e0 e1
    refine wp_region_tail 15 hmx (by kernel_rfl) ?_
    simp only [List.take_succ_cons, List.take_zero, List.drop_succ_cons, List.drop_zero]
    repeat (go_big_quiet_step (exact calls_ext_same (around_calls _ (by omega) (by omega) (by omega) (by omega))))
    refine wpQuiet_nil ?_
    intro x
    have r0 := q0.later x.le
    have r1 := q1.later x.le
    have c1 := r1.cell 1
    have f1 := r1.frozen 1
    simp at c1
    gi_wp2
    rw [HT.out]
    have r0' := r0.other (B' := w1.heap.size) 1 (.int .i64 ((cy d0 d1 m + by_) % d1)) (by omega)
    have r1' := r1.set 1 (.int .i64 ((cy d0 d1 m + by_) % d1))
    have hBX := (below_ext hBW x).setCell (p := ⟨w1.heap.size, 1, none⟩) (by simp; omega) (.int .i64 ((cy d0 d1 m + by_) % d1))
    generalize x.wd.setCell ⟨w1.heap.size, 1, none⟩ (.int .i64 ((cy d0 d1 m + by_) % d1)) = W5 at *
    clear e0 e1 c1 f1 r0 r1 q0 q1 hBW
    have c0 := r0'.cell 0
    have c1 := r0'.cell 1
    have c2 := r0'.cell 2
    have k0 := r1'.cell 0
    have k1 := r1'.cell 1
    have k2 := r1'.cell 2
    simp at c0 c1 c2 k0 k1 k2
    go_wp2_with fail
    refine (at_yes _ hm hon.2.1).mono ?_
    rintro e w6 ⟨rfl, hB6⟩
    go_wp2
    go_ret2
    exact ⟨rfl, hBX.trans (hB6.mono hBX.size)⟩
  · simp only [axI, onD]
    have hb : belowB 2 3 = true := by simp [belowB]
    obtain ⟨ht1, ht2, ht3⟩ := tmod_bd by_ d2 (by omega)
    have HT : Hid ((cz d0 d1 m + by_.tmod d2) % d2 = (cz d0 d1 m + by_) % d2) := ht3 _
    clear ht3
    go_enter Tryz.func63, Tryz.ntmps63
    go_wp2_with fail
    refine (of_yes _ hm HN.out).mono ?_
    rintro x w1 ⟨rfl, hB⟩
    go_wp2_with fail
    refine (below_calls _ _ _).mono ?_
    rintro x w2 ⟨rfl, rfl⟩
    go_wp2_with fail
    obtain ⟨W, hW⟩ : ∃ W, w1.alloc (.cells #[I (cx d0 m), I (cy d0 d1 m), I (cz d0 d1 m)] 22) = W := ⟨_, rfl⟩
    have q0 : Blk W w.heap.size 23 #[I d0, I d1, I d2] := hW ▸ ((Blk.new w 23 #[I d0, I d1, I d2]).later hB).alloc _
    have q1 : Blk W w1.heap.size 22 #[I (cx d0 m), I (cy d0 d1 m), I (cz d0 d1 m)] := hW ▸ Blk.new w1 _ _
    have hz : w.heap.size < w1.heap.size := by have := hB.size; simp at this; omega
    have hBW : Below w.heap.size w W := hW ▸ (((Below.refl _ w).alloc (Nat.le_refl _) _).trans (hB.mono (by simp))).alloc (by omega) _
    rw [hW]
    clear hW hB
    have hmx : Tryz.prog.follows .mixedOrders = true := by kernel_rfl
    have e0 := Ext.cell q0 2
    have e1 := Ext.cell q1 2
    simp at e0 e1
    refine wp_region_tail 15 hmx (by kernel_rfl) ?_
    simp only [List.take_succ_cons, List.take_zero, List.drop_succ_cons, List.drop_zero]
    repeat (go_big_quiet_step (exact calls_ext_same (around_calls _ (by omega) (by omega) (by omega) (by omega))))
    refine wpQuiet_nil ?_
    intro x
    have r0 := q0.later x.le
    have r1 := q1.later x.le
    have c1 := r1.cell 2
    have f1 := r1.frozen 2
    simp at c1
    gi_wp2
    rw [HT.out]
    have r0' := r0.other (B' := w1.heap.size) 2 (.int .i64 ((cz d0 d1 m + by_) % d2)) (by omega)
    have r1' := r1.set 2 (.int .i64 ((cz d0 d1 m + by_) % d2))
    have hBX := (below_ext hBW x).setCell (p := ⟨w1.heap.size, 2, none⟩) (by simp; omega) (.int .i64 ((cz d0 d1 m + by_) % d2))
    generalize x.wd.setCell ⟨w1.heap.size, 2, none⟩ (.int .i64 ((cz d0 d1 m + by_) % d2)) = W5 at *
    clear e0 e1 c1 f1 r0 r1 q0 q1 hBW
    have c0 := r0'.cell 0
    have c1 := r0'.cell 1
    have c2 := r0'.cell 2
    have k0 := r1'.cell 0
    have k1 := r1'.cell 1
    have k2 := r1'.cell 2
    simp at c0 c1 c2 k0 k1 k2
    go_wp2_with fail
    refine (at_yes _ hm hon.2.2).mono ?_
    rintro e w6 ⟨rfl, hB6⟩
    go_wp2
    go_ret2
    exact ⟨rfl, hBX.trans (hB6.mono hBX.size)⟩

end Go.Proofs.YtbobfhoimhambaaGreatDoor

/-
  wire.checkLine, wire.wired, wire.Many, wire.Link, wire.Ends: what each call answers, for every input; nothing that lay before is turned.
-/
namespace Go.Proofs.YtbobfhoimhambaaGreatDoor
open Go.RowKit Go.Shelf

attribute [local go_sem] Oper.semAt_some ext_const

/-- An axis that may be, and a midplane. -/
def lineOk (d0 d1 d2 axis m : Int) : Prop := (0 ≤ m ∧ m < d0 * d1 * d2) ∧ (0 ≤ axis ∧ axis < 3)
/-- What is refused, and with which error. -/
def Refused (d0 d1 d2 axis m e : Int) : Prop := (¬ mayD d0 d1 d2 ∧ e = 8) ∨ (mayD d0 d1 d2 ∧ ¬ lineOk d0 d1 d2 axis m ∧ e = 2)

theorem Refused.ne {d0 d1 d2 axis m e : Int} (h : Refused d0 d1 d2 axis m e) : (e != 0) = true := by
  rcases h with ⟨_, rfl⟩ | ⟨_, _, rfl⟩ <;> decide
theorem refused_or (d0 d1 d2 axis m : Int) : (∃ e, Refused d0 d1 d2 axis m e) ∨ (mayD d0 d1 d2 ∧ (0 ≤ m ∧ m < d0 * d1 * d2) ∧ ∃ k : Fin 3, axis = axI k) := by
  by_cases h : mayD d0 d1 d2
  · by_cases h' : lineOk d0 d1 d2 axis m
    · refine .inr ⟨h, h'.1, ?_⟩
      have := h'.2
      have : axis = 0 ∨ axis = 1 ∨ axis = 2 := by omega
      rcases this with rfl | rfl | rfl
      · exact ⟨0, rfl⟩
      · exact ⟨1, rfl⟩
      · exact ⟨2, rfl⟩
    · exact .inl ⟨2, .inr ⟨h, h', rfl⟩⟩
  · exact .inl ⟨8, .inl ⟨h, rfl⟩⟩

theorem step_ref {d0 d1 d2 axis m e : Int} (by_ : Int) (w : World) (h : Refused d0 d1 d2 axis m e) :
    Calls Tryz.prog 63 #[A3 d0 d1 d2, I m, I axis, I by_] w fun x W' => x = .returned (.tuple #[I 0, I e]) ∧ Below w.heap.size w W' := by
  rcases h with ⟨h, rfl⟩ | ⟨h, h', rfl⟩
  · exact step_err m axis by_ 8 w (by decide) (fun w => of_bad m w h)
  · by_cases hn : 0 ≤ m ∧ m < d0 * d1 * d2
    · exact step_axis w h hn (fun ha => h' ⟨hn, ha⟩)
    · exact step_err m axis by_ 2 w (by decide) (fun w => of_no w h hn)

set_option maxHeartbeats 400000 in
theorem checkl_of {d0 d1 d2 axis m : Int} (r e : Int) (w : World) (hc : ∀ w, Calls Tryz.prog 63 #[A3 d0 d1 d2, I m, I axis, I 0] w fun x W' => x = .returned (.tuple #[I r, I e]) ∧ Below w.heap.size w W') :
    Calls Tryz.prog 74 #[A3 d0 d1 d2, I axis, I m] w fun x W' => x = .returned (I e) ∧ Below w.heap.size w W' := by
  have HH : Hid (∀ w, Calls Tryz.prog 63 #[A3 d0 d1 d2, I m, I axis, I 0] w fun x W' => x = .returned (.tuple #[I r, I e]) ∧ Below w.heap.size w W') := hc
  clear hc
  go_enter Tryz.func74, Tryz.ntmps74
  go_wp2_with fail
  refine (HH.out _).mono ?_
  rintro x w1 ⟨rfl, hB⟩
  go_wp2
  go_ret
  exact ⟨rfl, then_below ((Below.refl _ w).alloc (Nat.le_refl _) _) hB⟩

theorem checkl_ref {d0 d1 d2 axis m e : Int} (w : World) (h : Refused d0 d1 d2 axis m e) :
    Calls Tryz.prog 74 #[A3 d0 d1 d2, I axis, I m] w fun x W' => x = .returned (I e) ∧ Below w.heap.size w W' :=
  checkl_of 0 e w fun w => step_ref 0 w h
theorem checkl_yes {d0 d1 d2 axis m : Int} (w : World) (hm : mayD d0 d1 d2) (hn : 0 ≤ m ∧ m < d0 * d1 * d2) {k : Fin 3} (hk : axis = axI k) :
    Calls Tryz.prog 74 #[A3 d0 d1 d2, I axis, I m] w fun x W' => x = .returned (I 0) ∧ Below w.heap.size w W' := by
  subst hk
  exact checkl_of _ 0 w fun w => step_yes w hm hn k

set_option maxHeartbeats 400000 in
theorem wired_calls {d0 d1 d2 axis : Int} (w : World) {k : Fin 3} (hk : axis = axI k) {b : Bool} (hb : b = decide (1 < dimAt d0 d1 d2 k)) :
    Calls Tryz.prog 62 #[A3 d0 d1 d2, I axis] w fun x W' => x = .returned (.bool b) ∧ Below w.heap.size w W' := by
  have HB : Hid (b = decide (1 < dimAt d0 d1 d2 k)) := hb
  clear hb
  subst hk
  rcases fin3 k with rfl | rfl | rfl
  all_goals
    simp only [axI, dimAt] at HB ⊢
    go_enter Tryz.func62, Tryz.ntmps62
    go_wp2
    go_ret
    exact ⟨by rw [HB.out]; rfl, (Below.refl _ w).alloc (Nat.le_refl _) _⟩

set_option maxHeartbeats 400000 in
theorem wmany_no {d0 d1 d2 : Int} (w : World) (hm : ¬ mayD d0 d1 d2) :
    Calls Tryz.prog 25 #[A3 d0 d1 d2] w fun e W' => e = .returned (.tuple #[I 0, I 8]) ∧ Below w.heap.size w W' := by
  go_enter Tryz.func25, Tryz.ntmps25
  go_wp2_with fail
  refine (many_no _ hm).mono ?_
  rintro e w1 ⟨rfl, hB⟩
  go_wp2
  go_ret2
  exact ⟨rfl, then_below ((Below.refl _ w).alloc (Nat.le_refl _) _) hB⟩
set_option maxHeartbeats 400000 in
theorem wmany_yes {d0 d1 d2 : Int} (w : World) (hm : mayD d0 d1 d2) :
    Calls Tryz.prog 25 #[A3 d0 d1 d2] w fun e W' => e = .returned (.tuple #[I (3 * (d0 * d1 * d2)), I 0]) ∧ Below w.heap.size w W' := by
  have hN := N_bd hm
  have HM : Hid (∀ w, Calls Tryz.prog 18 #[A3 d0 d1 d2] w fun e W' => e = .returned (.tuple #[I (d0 * d1 * d2), I 0]) ∧ Below w.heap.size w W') := fun w => many_yes w hm
  generalize d0 * d1 * d2 = N at *
  go_enter Tryz.func25, Tryz.ntmps25
  go_wp2_with fail
  refine (HM.out _).mono ?_
  rintro e w1 ⟨rfl, hB⟩
  go_wp2
  go_ret2
  exact ⟨rfl, then_below ((Below.refl _ w).alloc (Nat.le_refl _) _) hB⟩

set_option maxHeartbeats 400000 in
theorem link_ref {d0 d1 d2 axis m e : Int} (w : World) (h : Refused d0 d1 d2 axis m e) :
    Calls Tryz.prog 85 #[A3 d0 d1 d2, I axis, I m] w fun x W' => x = .returned (.tuple #[I 0, I e]) ∧ Below w.heap.size w W' := by
  have he := h.ne
  have H : Hid (Refused d0 d1 d2 axis m e) := h
  clear h
  go_enter Tryz.func85, Tryz.ntmps85
  go_wp2_with fail
  refine (checkl_ref _ H.out).mono ?_
  rintro x w1 ⟨rfl, hB⟩
  go_wp2
  go_ret2
  exact ⟨rfl, then_below ((Below.refl _ w).alloc (Nat.le_refl _) _) hB⟩

set_option maxHeartbeats 400000 in
theorem link_none {d0 d1 d2 axis m : Int} (w : World) (hm : mayD d0 d1 d2) (hn : 0 ≤ m ∧ m < d0 * d1 * d2) {k : Fin 3} (hk : axis = axI k) (h1 : ¬ 1 < dimAt d0 d1 d2 k) :
    Calls Tryz.prog 85 #[A3 d0 d1 d2, I axis, I m] w fun x W' => x = .returned (.tuple #[I 0, I 6]) ∧ Below w.heap.size w W' := by
  have HN : Hid (0 ≤ m ∧ m < d0 * d1 * d2) := hn
  have HK : Hid (axis = axI k) := hk
  have HW : Hid (false = decide (1 < dimAt d0 d1 d2 k)) := (decide_eq_false h1).symm
  clear hn hk h1
  go_enter Tryz.func85, Tryz.ntmps85
  go_wp2_with fail
  refine (checkl_yes _ hm HN.out HK.out).mono ?_
  rintro x w1 ⟨rfl, hB⟩
  have g0 := (Blk.new w 23 #[I d0, I d1, I d2]).later hB
  have c0 := g0.cell 0
  have c1 := g0.cell 1
  have c2 := g0.cell 2
  simp at c0 c1 c2
  go_wp2_with fail
  refine (wired_calls _ HK.out HW.out).mono ?_
  rintro x w2 ⟨rfl, hB2⟩
  go_wp2
  go_ret2
  exact ⟨rfl, then_below (then_below ((Below.refl _ w).alloc (Nat.le_refl _) _) hB) hB2⟩

theorem cab_wrap {d0 d1 d2 m : Int} (hm : mayD d0 d1 d2) (hn : 0 ≤ m ∧ m < d0 * d1 * d2) (k : Fin 3) : wrap64 (wrap64 (axI k * (d0 * d1 * d2)) + m) = cabW d0 d1 d2 k m := by
  have hN := N_bd hm
  unfold cabW
  generalize d0 * d1 * d2 = N at *
  match k with
  | 0 => simp only [axI]; unfold wrap64; omega
  | 1 => simp only [axI]; unfold wrap64; omega
  | 2 => simp only [axI]; unfold wrap64; omega

set_option maxHeartbeats 400000 in
theorem link_yes {d0 d1 d2 axis m : Int} (w : World) (hm : mayD d0 d1 d2) (hn : 0 ≤ m ∧ m < d0 * d1 * d2) {k : Fin 3} (hk : axis = axI k) (h1 : 1 < dimAt d0 d1 d2 k) :
    Calls Tryz.prog 85 #[A3 d0 d1 d2, I axis, I m] w fun x W' => x = .returned (.tuple #[I (cabW d0 d1 d2 k m), I 0]) ∧ Below w.heap.size w W' := by
  have hcw := cab_wrap hm hn k
  rw [← hk] at hcw
  have HN : Hid (0 ≤ m ∧ m < d0 * d1 * d2) := hn
  have HM : Hid (∀ w, Calls Tryz.prog 18 #[A3 d0 d1 d2] w fun e W' => e = .returned (.tuple #[I (d0 * d1 * d2), I 0]) ∧ Below w.heap.size w W') := fun w => many_yes w hm
  have HL : Hid (∀ w, Calls Tryz.prog 74 #[A3 d0 d1 d2, I axis, I m] w fun x W' => x = .returned (I 0) ∧ Below w.heap.size w W') := fun w => checkl_yes w hm hn hk
  have HW : Hid (∀ w, Calls Tryz.prog 62 #[A3 d0 d1 d2, I axis] w fun x W' => x = .returned (.bool true) ∧ Below w.heap.size w W') := fun w => wired_calls w hk (decide_eq_true h1).symm
  generalize cabW d0 d1 d2 k m = c at *
  generalize d0 * d1 * d2 = N at *
  have HC : Hid (wrap64 (wrap64 (axis * N) + m) = c) := hcw
  clear hcw hn hk h1 HN
  go_enter Tryz.func85, Tryz.ntmps85
  go_wp2_with fail
  refine (HL.out _).mono ?_
  rintro x w1 ⟨rfl, hB⟩
  have g0 := (Blk.new w 23 #[I d0, I d1, I d2]).later hB
  have c0 := g0.cell 0
  have c1 := g0.cell 1
  have c2 := g0.cell 2
  simp at c0 c1 c2
  go_wp2_with fail
  refine (HW.out _).mono ?_
  rintro x w2 ⟨rfl, hB2⟩
  have g1 := g0.later hB2
  have k0 := g1.cell 0
  have k1 := g1.cell 1
  have k2 := g1.cell 2
  simp at k0 k1 k2
  go_wp2_with fail
  refine (HM.out _).mono ?_
  rintro x w3 ⟨rfl, hB3⟩
  go_wp2
  go_ret2
  exact ⟨by rw [HC.out]; rfl, then_below (then_below (then_below ((Below.refl _ w).alloc (Nat.le_refl _) _) hB) hB2) hB3⟩

end Go.Proofs.YtbobfhoimhambaaGreatDoor

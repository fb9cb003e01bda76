/-
  Whether two sets meet, and whether one is in the other one, as the document tells it: tidehallref03.Meets, Meet, Inside, In.
-/
import Derived.Test.YtlahfffgmfjpaaaGreatDoorPart8
import Derived.Test.YtlahfffgmfjpaaaGreatDoorPart4
import Derived.Test.YtlahfffgmfjpaaaGreatDoorPart2
namespace Go.Proofs.YtlahfffgmfjpaaaGreatDoor
open Go Go.RowKit Go.Shelf

def anyB (a b : List Nat) : Bool := (List.range (64 * a.length)).any fun j => hasW a j && hasW b j
def allB (a b : List Nat) : Bool := (List.range (64 * a.length)).all fun j => !hasW a j || hasW b j
theorem anyB_eq (a b : List Nat) : anyB a b = (numsW a).any fun j => hasW b j := by
  unfold anyB numsW listTo
  rw [List.any_filter]
theorem any_hit {a b : List Nat} {k : Nat} (hk : k < (numsW a).length) (h : hasW b ((numsW a).getD k 0) = true) : anyB a b = true := by
  rw [anyB_eq, List.any_eq_true]
  refine ⟨(numsW a)[k], List.getElem_mem hk, ?_⟩
  simpa [hk] using h
theorem any_none {a b : List Nat} (h : ∀ j, j < (numsW a).length → hasW b ((numsW a).getD j 0) = false) : anyB a b = false := by
  rw [anyB_eq]
  cases e : (numsW a).any fun j => hasW b j
  · rfl
  · obtain ⟨x, hx, hb⟩ := List.any_eq_true.1 e
    obtain ⟨k, hk, rfl⟩ := List.mem_iff_getElem.1 hx
    have := h k hk
    simp [hk] at this
    rw [this] at hb; cases hb
theorem numsW_lt {a : List Nat} {k : Nat} : (numsW a).getD k 0 ≤ 64 * a.length := by
  by_cases hk : k < (numsW a).length
  · have := (listTo_mem.1 (List.getElem_mem hk)).1
    simp [hk]
    exact Nat.le_of_lt this
  · simp [Nat.not_lt.1 hk]
theorem numsW_len (a : List Nat) : (numsW a).length ≤ 64 * a.length := listTo_len a _

set_option maxRecDepth 100000 in
set_option maxHeartbeats 4000000 in
theorem meetsS_calls {va vb : Value} {a b : List Nat} (w : World) (ha : Wds w va a) (hb : Wds w vb b) (hs : a.length ≤ 300) :
    Calls Tryz.prog 79 #[va, vb] w fun e W' => e = .returned (.bool (anyB a b)) ∧ Below w.heap.size w W' := by
  have HB : Hid (Wds w vb b) := hb
  have C := all_calls w ha hs
  obtain ⟨ans, hans⟩ : ∃ ans, ans = anyB a b := ⟨_, rfl⟩
  rw [← hans]
  have HS : Hid (ans = anyB a b) := hans
  clear hans
  have hnl : (numsW a).length ≤ 19200 := by have := numsW_len a; omega
  go_enter Tryz.func79, Tryz.ntmps79
  go_wp2_with fail
  refine C.mono ?_
  rintro e w1 ⟨u, rfl, hL, hT⟩
  obtain ⟨ao, cap, rfl, hv⟩ := hL.its.view
  rw [ofN_len] at hv ⊢
  have HV : Hid (∀ k, k < (numsW a).length → ∃ g off, ao = some ⟨g, off, none⟩ ∧ g < w1.heap.size ∧ w1.cell? ⟨g, off + k, none⟩ = some (I ((ofN (numsW a)).getD k 0))) := hv
  clear hv hL C
  go_wp2
  go_loopw [6] (fun i wr => ∃ k : Nat, k ≤ (numsW a).length ∧ i = .int .i64 k ∧ Hid (∀ j, j < k → hasW b ((numsW a).getD j 0) = false) ∧ wr = w1) (fun i _ => (numsW a).length - (RowKit.intOf i).toNat)
  case atStart => exact ⟨0, by omega, rfl, fun j hj => by omega, rfl⟩
  case round =>
    obtain ⟨k, hk, rfl, HT, hw⟩ := hrel
    subst hw
    by_cases hlt : (k : Int) < ((numsW a).length : Int)
    · have hkl : k < (numsW a).length := by omega
      obtain ⟨g, off, rfl, hg, hc⟩ := HV.out k hkl
      rw [ofN_get] at hc
      have TH := there_calls wr (HB.out.later hT) ((numsW a).getD k 0) (by have := numsW_lt (a := a) (k := k); omega)
      have H1 : Hid (hasW b ((numsW a).getD k 0) = true → ans = true) := fun h => by rw [HS.out]; exact any_hit hkl h
      have H0 : Hid (hasW b ((numsW a).getD k 0) = false → ∀ j, j < k + 1 → hasW b ((numsW a).getD j 0) = false) := fun h j hj => by
        rcases Nat.lt_succ_iff_lt_or_eq.1 hj with hj | rfl
        · exact HT.out j hj
        · exact h
      generalize hasW b ((numsW a).getD k 0) = q at *
      generalize (numsW a).getD k 0 = x at *
      go_wp2_with fail
      refine TH.mono ?_
      rintro e w2 ⟨rfl, hw⟩
      subst hw
      cases q
      · have HE : Hid _ := H0.out rfl
        go_wp2
        go_roundw
        case rel => exact ⟨k + 1, by omega, by go_num, HE.out, by trivial⟩
        case measure => simp [RowKit.intOf]; omega
      · have E := H1.out rfl
        subst E
        go_wp2
        go_ret
        exact ⟨rfl, hT⟩
    · have E : ans = false := by rw [HS.out]; exact any_none (fun j hj => HT.out j (by omega))
      subst E
      go_wp2
      go_ret
      exact ⟨rfl, hT⟩

end Go.Proofs.YtlahfffgmfjpaaaGreatDoor

/-
  The set of the numbers below n that something is told of: as a row of words, and what set's calls make of it. No program is walked here.
-/
namespace Go.Proofs.YtlahfffgmfjpaaaGreatDoor
open Go Go.RowKit

/-- The words of the numbers below k that are asked for. -/
def wordsTo (l : Nat) (p : Nat → Bool) : Nat → List Nat
  | 0 => List.replicate l 0
  | k + 1 => if p k = true then putW (wordsTo l p k) k else wordsTo l p k
theorem words_is (l : Nat) (p : Nat → Bool) : ∀ k, k ≤ 64 * l → IsSet l (wordsTo l p k) (fun j => decide (j < k) && p j)
  | 0, _ => (IsSet.none l).congr (fun j => by simp)
  | k + 1, h => by
    have ih := words_is l p k (by omega)
    unfold wordsTo
    cases hp : p k
    · rw [if_neg (by simp)]
      exact ih.congr (fun j => upto_no hp j)
    · rw [if_pos rfl]
      exact ih.put (by omega) (fun j => upto_yes hp j)
/-- The set of the numbers below n that are asked for. -/
def setOf (n : Int) (p : Nat → Bool) : List Nat := wordsTo ((n.toNat + 63) / 64) p n.toNat
theorem setOf_is (n : Int) (p : Nat → Bool) : IsSet ((n.toNat + 63) / 64) (setOf n p) (fun j => decide (j < n.toNat) && p j) := words_is _ _ _ (by omega)
theorem setOf_err {n : Int} (h1 : 1 ≤ n) (h2 : n ≤ 12288) (p : Nat → Bool) : errAll n [setOf n p] = 0 :=
  errAll_may h1 h2 (mayS_iff.2 ⟨(setOf_is n p).len, fun k hk => by rw [(setOf_is n p).has]; simp [Nat.not_lt.2 hk]⟩)
theorem setOf_of {n : Int} {l : List Int} {ws : List Nat} {p : Nat → Bool} (h : OfIs n l ws) (hk : ofOk n l = true) (hp : ∀ j : Nat, inL l j = (decide (j < n.toNat) && p j)) : ws = setOf n p :=
  (h.yes hk).ext ((setOf_is n p).congr hp)
theorem setOf_len (n : Int) (p : Nat → Bool) : (setOf n p).length = (n.toNat + 63) / 64 := (setOf_is n p).len

theorem ofOk_all {n : Int} {l : List Int} (h1 : 1 ≤ n) (h2 : n ≤ 12288) (h : ∀ x ∈ l, 0 ≤ x ∧ x < n) : ofOk n l = true := by
  unfold ofOk
  rw [show okN n = true by simp [okN]; omega, Bool.true_and, List.all_eq_true]
  intro x hx
  simpa using h x hx

end Go.Proofs.YtlahfffgmfjpaaaGreatDoor

/-
  pos.Step: the midplane some steps on, for every input; nothing that lay before is turned.
-/
namespace Go.Proofs.YtlahfffgmfjpaaaGreatDoor
open Go.RowKit Go.Shelf

attribute [local go_sem] Oper.semAt_some ext_const

theorem around_calls {k n : Int} (w : World) (hk : -n < k) (hk2 : k ≤ 1000) (h1 : 1 ≤ n) (h2 : n ≤ 16) :
    Calls Tryz.prog 154 #[I k, I n] w fun e w' => e = .returned (I (k % n)) ∧ w' = w := by
  have E : Hid ((k + n) % n = k % n) := Int.add_emod_right k n
  go_enter Tryz.func154, Tryz.ntmps154
  go_wp2
  go_ret
  rw [← E.out]
  exact ⟨rfl, rfl⟩

set_option maxRecDepth 100000 in
set_option maxHeartbeats 1000000 in
theorem step_yes {d0 d1 d2 m by_ : Int} (w : World) (hm : mayD d0 d1 d2) (hn : 0 ≤ m ∧ m < d0 * d1 * d2) (k : Fin 3) :
    Calls Tryz.prog 150 #[A3 d0 d1 d2, I m, I (axI k), I by_] w fun x W' => x = .returned (.tuple #[I (onD d0 d1 d2 m k by_), I 0]) ∧ Below w.heap.size w W' := by
  have HN : Hid (0 ≤ m ∧ m < d0 * d1 * d2) := hn
  have hin := inD_of_node hm hn
  have hon := inD_on hm hn by_
  have hd := hm
  unfold inD at hin
  unfold mayD okD at hd
  clear hn
  rcases fin3 k with rfl | rfl | rfl
  · simp only [axI, onD]
    have hb : belowB 0 3 = true := by simp [belowB]
    obtain ⟨ht1, ht2, ht3⟩ := tmod_bd by_ d0 (by omega)
    have HT : Hid ((cx d0 m + by_.tmod d0) % d0 = (cx d0 m + by_) % d0) := ht3 _
    clear ht3
    go_enter Tryz.func150, Tryz.ntmps150
    go_wp2_with fail
    refine (of_yes _ hm HN.out).mono ?_
    rintro x w1 ⟨rfl, hB⟩
    go_wp2_with fail
    refine (below_calls _ _ _).mono ?_
    rintro x w2 ⟨rfl, rfl⟩
    go_wp2_with fail
    obtain ⟨W, hW⟩ : ∃ W, w1.alloc (.cells #[I (cx d0 m), I (cy d0 d1 m), I (cz d0 d1 m)] 22) = W := ⟨_, rfl⟩
    have q0 : Blk W w.heap.size 23 #[I d0, I d1, I d2] := hW ▸ ((Blk.new w 23 #[I d0, I d1, I d2]).later hB).alloc _
    have q1 : Blk W w1.heap.size 22 #[I (cx d0 m), I (cy d0 d1 m), I (cz d0 d1 m)] := hW ▸ Blk.new w1 _ _
    have hz : w.heap.size < w1.heap.size := by have := hB.size; simp at this; omega
    have hBW : Below w.heap.size w W := hW ▸ (((Below.refl _ w).alloc (Nat.le_refl _) _).trans (hB.mono (by simp))).alloc (by omega) _
    rw [hW]
    clear hW hB
    have hmx : Tryz.prog.follows .mixedOrders = true := by kernel_rfl
    have e0 := Ext.cell q0 0
    have e1 := Ext.cell q1 0
    simp at e0 e1
    refine wp_region_tail 15 hmx (by kernel_rfl) ?_
    simp only [List.take_succ_cons, List.take_zero, List.drop_succ_cons, List.drop_zero]
    repeat (go_big_quiet_step (exact calls_ext_same (around_calls _ (by omega) (by omega) (by omega) (by omega))))
    refine wpQuiet_nil ?_
    intro x
    have r0 := q0.later x.le
    have r1 := q1.later x.le
    have c1 := r1.cell 0
    have f1 := r1.frozen 0
    simp at c1
    gi_wp2
    rw [HT.out]
    have r0' := r0.other (B' := w1.heap.size) 0 (.int .i64 ((cx d0 m + by_) % d0)) (by omega)
    have r1' := r1.set 0 (.int .i64 ((cx d0 m + by_) % d0))
    have hBX := (below_ext hBW x).setCell (p := ⟨w1.heap.size, 0, none⟩) (by simp; omega) (.int .i64 ((cx d0 m + by_) % d0))
    generalize x.wd.setCell ⟨w1.heap.size, 0, none⟩ (.int .i64 ((cx d0 m + by_) % d0)) = W5 at *
    clear e0 e1 c1 f1 r0 r1 q0 q1 hBW
    have c0 := r0'.cell 0
    have c1 := r0'.cell 1
    have c2 := r0'.cell 2
    have k0 := r1'.cell 0
    have k1 := r1'.cell 1
    have k2 := r1'.cell 2
    simp at c0 c1 c2 k0 k1 k2
    go_wp2_with fail
    refine (at_yes _ hm hon.1).mono ?_
    rintro e w6 ⟨rfl, hB6⟩
    go_wp2
    go_ret2
    exact ⟨rfl, hBX.trans (hB6.mono hBX.size)⟩
  · simp only [axI, onD]
    have hb : belowB 1 3 = true := by simp [belowB]
    obtain ⟨ht1, ht2, ht3⟩ := tmod_bd by_ d1 (by omega)
    have HT : Hid ((cy d0 d1 m + by_.tmod d1) % d1 = (cy d0 d1 m + by_) % d1) := ht3 _
    clear ht3
    go_enter Tryz.func150, Tryz.ntmps150
    go_wp2_with fail
    refine (of_yes _ hm HN.out).mono ?_
    rintro x w1 ⟨rfl, hB⟩
    go_wp2_with fail
    refine (below_calls _ _ _).mono ?_
    rintro x w2 ⟨rfl, rfl⟩
    go_wp2_with fail
    obtain ⟨W, hW⟩ : ∃ W, w1.alloc (.cells #[I (cx d0 m), I (cy d0 d1 m), I (cz d0 d1 m)] 22) = W := ⟨_, rfl⟩
    have q0 : Blk W w.heap.size 23 #[I d0, I d1, I d2] := hW ▸ ((Blk.new w 23 #[I d0, I d1, I d2]).later hB).alloc _
    have q1 : Blk W w1.heap.size 22 #[I (cx d0 m), I (cy d0 d1 m), I (cz d0 d1 m)] := hW ▸ Blk.new w1 _ _
    have hz : w.heap.size < w1.heap.size := by have := hB.size; simp at this; omega
    have hBW : Below w.heap.size w W := hW ▸ (((Below.refl _ w).alloc (Nat.le_refl _) _).trans (hB.mono (by simp))).alloc (by omega) _
    rw [hW]
    clear hW hB
    have hmx : Tryz.prog.follows .mixedOrders = true := by kernel_rfl
    have e0 := Ext.cell q0 1
    have e1 := Ext.cell q1 1
    simp at e0 e1
    refine wp_region_tail 15 hmx (by kernel_rfl) ?_
    simp only [List.take_succ_cons, List.take_zero, List.drop_succ_cons, List.drop_zero]
    repeat (go_big_quiet_step (exact calls_ext_same (around_calls _ (by omega) (by omega) (by omega) (by omega))))
    refine wpQuiet_nil ?_
    intro x
    have r0 := q0.later x.le
    have r1 := q1.later x.le
    have c1 := r1.cell 1
    have f1 := r1.frozen 1
    simp at c1
    gi_wp2
    rw [HT.out]
    have r0' := r0.other (B' := w1.heap.size) 1 (.int .i64 ((cy d0 d1 m + by_) % d1)) (by omega)
    have r1' := r1.set 1 (.int .i64 ((cy d0 d1 m + by_) % d1))
    have hBX := (below_ext hBW x).setCell (p := ⟨w1.heap.size, 1, none⟩) (by simp; omega) (.int .i64 ((cy d0 d1 m + by_) % d1))
    generalize x.wd.setCell ⟨w1.heap.size, 1, none⟩ (.int .i64 ((cy d0 d1 m + by_) % d1)) = W5 at *
    clear e0 e1 c1 f1 r0 r1 q0 q1 hBW
    have c0 := r0'.cell 0
    have c1 := r0'.cell 1
    have c2 := r0'.cell 2
    have k0 := r1'.cell 0
    have k1 := r1'.cell 1
    have k2 := r1'.cell 2
    simp at c0 c1 c2 k0 k1 k2
    go_wp2_with fail
    refine (at_yes _ hm hon.2.1).mono ?_
    rintro e w6 ⟨rfl, hB6⟩
    go_wp2
    go_ret2
    exact ⟨rfl, hBX.trans (hB6.mono hBX.size)⟩
  · simp only [axI, onD]
    have hb : belowB 2 3 = true := by simp [belowB]
    obtain ⟨ht1, ht2, ht3⟩ := tmod_bd by_ d2 (by omega)
    have HT : Hid ((cz d0 d1 m + by_.tmod d2) % d2 = (cz d0 d1 m + by_) % d2) := ht3 _
    clear ht3
    go_enter Tryz.func150, Tryz.ntmps150
    go_wp2_with fail
    refine (of_yes _ hm HN.out).mono ?_
    rintro x w1 ⟨rfl, hB⟩
    go_wp2_with fail
    refine (below_calls _ _ _).mono ?_
    rintro x w2 ⟨rfl, rfl⟩
    go_wp2_with fail
    obtain ⟨W, hW⟩ : ∃ W, w1.alloc (.cells #[I (cx d0 m), I (cy d0 d1 m), I (cz d0 d1 m)] 22) = W := ⟨_, rfl⟩
    have q0 : Blk W w.heap.size 23 #[I d0, I d1, I d2] := hW ▸ ((Blk.new w 23 #[I d0, I d1, I d2]).later hB).alloc _
    have q1 : Blk W w1.heap.size 22 #[I (cx d0 m), I (cy d0 d1 m), I (cz d0 d1 m)] := hW ▸ Blk.new w1 _ _
    have hz : w.heap.size < w1.heap.size := by have := hB.size; simp at this; omega
    have hBW : Below w.heap.size w W := hW ▸ (((Below.refl _ w).alloc (Nat.le_refl _) _).trans (hB.mono (by simp))).alloc (by omega) _
    rw [hW]
    clear hW hB
    have hmx : Tryz.prog.follows .mixedOrders = true := by kernel_rfl
    have e0 := Ext.cell q0 2
    have e1 := Ext.cell q1 2
    simp at e0 e1
    refine wp_region_tail 15 hmx (by kernel_rfl) ?_
    simp only [List.take_succ_cons, List.take_zero, List.drop_succ_cons, List.drop_zero]
    repeat (go_big_quiet_step (exact calls_ext_same (around_calls _ (by omega) (by omega) (by omega) (by omega))))
    refine wpQuiet_nil ?_
    intro x
    have r0 := q0.later x.le
    have r1 := q1.later x.le
    have c1 := r1.cell 2
    have f1 := r1.frozen 2
    simp at c1
    gi_wp2
    rw [HT.out]
    have r0' := r0.other (B' := w1.heap.size) 2 (.int .i64 ((cz d0 d1 m + by_) % d2)) (by omega)
    have r1' := r1.set 2 (.int .i64 ((cz d0 d1 m + by_) % d2))
    have hBX := (below_ext hBW x).setCell (p := ⟨w1.heap.size, 2, none⟩) (by simp; omega) (.int .i64 ((cz d0 d1 m + by_) % d2))
    generalize x.wd.setCell ⟨w1.heap.size, 2, none⟩ (.int .i64 ((cz d0 d1 m + by_) % d2)) = W5 at *
    clear e0 e1 c1 f1 r0 r1 q0 q1 hBW
    have c0 := r0'.cell 0
    have c1 := r0'.cell 1
    have c2 := r0'.cell 2
    have k0 := r1'.cell 0
    have k1 := r1'.cell 1
    have k2 := r1'.cell 2
    simp at c0 c1 c2 k0 k1 k2
    go_wp2_with fail
    refine (at_yes _ hm hon.2.2).mono ?_
    rintro e w6 ⟨rfl, hB6⟩
    go_wp2
    go_ret2
    exact ⟨rfl, hBX.trans (hB6.mono hBX.size)⟩

end Go.Proofs.YtlahfffgmfjpaaaGreatDoor

/-
  wire.checkLine, wire.wired, wire.Many, wire.Link, wire.Ends: what each call answers, for every input; nothing that lay before is turned.
-/
namespace Go.Proofs.YtlahfffgmfjpaaaGreatDoor
open Go.RowKit Go.Shelf

attribute [local go_sem] Oper.semAt_some ext_const

/-- An axis that may be, and a midplane. -/
def lineOk (d0 d1 d2 axis m : Int) : Prop := (0 ≤ m ∧ m < d0 * d1 * d2) ∧ (0 ≤ axis ∧ axis < 3)
/-- What is refused, and with which error. -/
def Refused (d0 d1 d2 axis m e : Int) : Prop := (¬ mayD d0 d1 d2 ∧ e = 8) ∨ (mayD d0 d1 d2 ∧ ¬ lineOk d0 d1 d2 axis m ∧ e = 2)

theorem Refused.ne {d0 d1 d2 axis m e : Int} (h : Refused d0 d1 d2 axis m e) : (e != 0) = true := by
  rcases h with ⟨_, rfl⟩ | ⟨_, _, rfl⟩ <;> decide
set_option maxHeartbeats 400000 in
theorem checkl_of {d0 d1 d2 axis m : Int} (r e : Int) (w : World) (hc : ∀ w, Calls Tryz.prog 150 #[A3 d0 d1 d2, I m, I axis, I 0] w fun x W' => x = .returned (.tuple #[I r, I e]) ∧ Below w.heap.size w W') :
    Calls Tryz.prog 144 #[A3 d0 d1 d2, I axis, I m] w fun x W' => x = .returned (I e) ∧ Below w.heap.size w W' := by
  have HH : Hid (∀ w, Calls Tryz.prog 150 #[A3 d0 d1 d2, I m, I axis, I 0] w fun x W' => x = .returned (.tuple #[I r, I e]) ∧ Below w.heap.size w W') := hc
  clear hc
  go_enter Tryz.func144, Tryz.ntmps144
  go_wp2_with fail
  refine (HH.out _).mono ?_
  rintro x w1 ⟨rfl, hB⟩
  go_wp2
  go_ret
  exact ⟨rfl, then_below ((Below.refl _ w).alloc (Nat.le_refl _) _) hB⟩

theorem checkl_yes {d0 d1 d2 axis m : Int} (w : World) (hm : mayD d0 d1 d2) (hn : 0 ≤ m ∧ m < d0 * d1 * d2) {k : Fin 3} (hk : axis = axI k) :
    Calls Tryz.prog 144 #[A3 d0 d1 d2, I axis, I m] w fun x W' => x = .returned (I 0) ∧ Below w.heap.size w W' := by
  subst hk
  exact checkl_of _ 0 w fun w => step_yes w hm hn k

set_option maxHeartbeats 400000 in
theorem wired_calls {d0 d1 d2 axis : Int} (w : World) {k : Fin 3} (hk : axis = axI k) {b : Bool} (hb : b = decide (1 < dimAt d0 d1 d2 k)) :
    Calls Tryz.prog 156 #[A3 d0 d1 d2, I axis] w fun x W' => x = .returned (.bool b) ∧ Below w.heap.size w W' := by
  have HB : Hid (b = decide (1 < dimAt d0 d1 d2 k)) := hb
  clear hb
  subst hk
  rcases fin3 k with rfl | rfl | rfl
  all_goals
    simp only [axI, dimAt] at HB ⊢
    go_enter Tryz.func156, Tryz.ntmps156
    go_wp2
    go_ret
    exact ⟨by rw [HB.out]; rfl, (Below.refl _ w).alloc (Nat.le_refl _) _⟩

set_option maxHeartbeats 400000 in
theorem wmany_yes {d0 d1 d2 : Int} (w : World) (hm : mayD d0 d1 d2) :
    Calls Tryz.prog 131 #[A3 d0 d1 d2] w fun e W' => e = .returned (.tuple #[I (3 * (d0 * d1 * d2)), I 0]) ∧ Below w.heap.size w W' := by
  have hN := N_bd hm
  have HM : Hid (∀ w, Calls Tryz.prog 40 #[A3 d0 d1 d2] w fun e W' => e = .returned (.tuple #[I (d0 * d1 * d2), I 0]) ∧ Below w.heap.size w W') := fun w => many_yes w hm
  generalize d0 * d1 * d2 = N at *
  go_enter Tryz.func131, Tryz.ntmps131
  go_wp2_with fail
  refine (HM.out _).mono ?_
  rintro e w1 ⟨rfl, hB⟩
  go_wp2
  go_ret2
  exact ⟨rfl, then_below ((Below.refl _ w).alloc (Nat.le_refl _) _) hB⟩

set_option maxHeartbeats 400000 in
theorem link_none {d0 d1 d2 axis m : Int} (w : World) (hm : mayD d0 d1 d2) (hn : 0 ≤ m ∧ m < d0 * d1 * d2) {k : Fin 3} (hk : axis = axI k) (h1 : ¬ 1 < dimAt d0 d1 d2 k) :
    Calls Tryz.prog 153 #[A3 d0 d1 d2, I axis, I m] w fun x W' => x = .returned (.tuple #[I 0, I 6]) ∧ Below w.heap.size w W' := by
  have HN : Hid (0 ≤ m ∧ m < d0 * d1 * d2) := hn
  have HK : Hid (axis = axI k) := hk
  have HW : Hid (false = decide (1 < dimAt d0 d1 d2 k)) := (decide_eq_false h1).symm
  clear hn hk h1
  go_enter Tryz.func153, Tryz.ntmps153
  go_wp2_with fail
  refine (checkl_yes _ hm HN.out HK.out).mono ?_
  rintro x w1 ⟨rfl, hB⟩
  have g0 := (Blk.new w 23 #[I d0, I d1, I d2]).later hB
  have c0 := g0.cell 0
  have c1 := g0.cell 1
  have c2 := g0.cell 2
  simp at c0 c1 c2
  go_wp2_with fail
  refine (wired_calls _ HK.out HW.out).mono ?_
  rintro x w2 ⟨rfl, hB2⟩
  go_wp2
  go_ret2
  exact ⟨rfl, then_below (then_below ((Below.refl _ w).alloc (Nat.le_refl _) _) hB) hB2⟩

theorem cab_wrap {d0 d1 d2 m : Int} (hm : mayD d0 d1 d2) (hn : 0 ≤ m ∧ m < d0 * d1 * d2) (k : Fin 3) : wrap64 (wrap64 (axI k * (d0 * d1 * d2)) + m) = cabW d0 d1 d2 k m := by
  have hN := N_bd hm
  unfold cabW
  generalize d0 * d1 * d2 = N at *
  match k with
  | 0 => simp only [axI]; unfold wrap64; omega
  | 1 => simp only [axI]; unfold wrap64; omega
  | 2 => simp only [axI]; unfold wrap64; omega

set_option maxHeartbeats 400000 in
theorem link_yes {d0 d1 d2 axis m : Int} (w : World) (hm : mayD d0 d1 d2) (hn : 0 ≤ m ∧ m < d0 * d1 * d2) {k : Fin 3} (hk : axis = axI k) (h1 : 1 < dimAt d0 d1 d2 k) :
    Calls Tryz.prog 153 #[A3 d0 d1 d2, I axis, I m] w fun x W' => x = .returned (.tuple #[I (cabW d0 d1 d2 k m), I 0]) ∧ Below w.heap.size w W' := by
  have hcw := cab_wrap hm hn k
  rw [← hk] at hcw
  have HN : Hid (0 ≤ m ∧ m < d0 * d1 * d2) := hn
  have HM : Hid (∀ w, Calls Tryz.prog 40 #[A3 d0 d1 d2] w fun e W' => e = .returned (.tuple #[I (d0 * d1 * d2), I 0]) ∧ Below w.heap.size w W') := fun w => many_yes w hm
  have HL : Hid (∀ w, Calls Tryz.prog 144 #[A3 d0 d1 d2, I axis, I m] w fun x W' => x = .returned (I 0) ∧ Below w.heap.size w W') := fun w => checkl_yes w hm hn hk
  have HW : Hid (∀ w, Calls Tryz.prog 156 #[A3 d0 d1 d2, I axis] w fun x W' => x = .returned (.bool true) ∧ Below w.heap.size w W') := fun w => wired_calls w hk (decide_eq_true h1).symm
  generalize cabW d0 d1 d2 k m = c at *
  generalize d0 * d1 * d2 = N at *
  have HC : Hid (wrap64 (wrap64 (axis * N) + m) = c) := hcw
  clear hcw hn hk h1 HN
  go_enter Tryz.func153, Tryz.ntmps153
  go_wp2_with fail
  refine (HL.out _).mono ?_
  rintro x w1 ⟨rfl, hB⟩
  have g0 := (Blk.new w 23 #[I d0, I d1, I d2]).later hB
  have c0 := g0.cell 0
  have c1 := g0.cell 1
  have c2 := g0.cell 2
  simp at c0 c1 c2
  go_wp2_with fail
  refine (HW.out _).mono ?_
  rintro x w2 ⟨rfl, hB2⟩
  have g1 := g0.later hB2
  have k0 := g1.cell 0
  have k1 := g1.cell 1
  have k2 := g1.cell 2
  simp at k0 k1 k2
  go_wp2_with fail
  refine (HM.out _).mono ?_
  rintro x w3 ⟨rfl, hB3⟩
  go_wp2
  go_ret2
  exact ⟨by rw [HC.out]; rfl, then_below (then_below (then_below ((Below.refl _ w).alloc (Nat.le_refl _) _) hB) hB2) hB3⟩

end Go.Proofs.YtlahfffgmfjpaaaGreatDoor

/-
  wire.Ends: what it answers, for every input; nothing that lay before is turned.
-/
namespace Go.Proofs.YtlahfffgmfjpaaaGreatDoor
open Go.RowKit Go.Shelf

attribute [local go_sem] Oper.semAt_some ext_const

/-- Each number of a cable is an axis and a midplane. -/
theorem cab_of {d0 d1 d2 link : Int} (h : mayD d0 d1 d2) (hl : 0 ≤ link ∧ link < 3 * (d0 * d1 * d2)) : ∃ (k : Fin 3) (m : Int), (0 ≤ m ∧ m < d0 * d1 * d2) ∧ link = cabW d0 d1 d2 k m := by
  have hN := N_bd h
  unfold cabW
  generalize d0 * d1 * d2 = N at *
  by_cases h1 : link < N
  · exact ⟨0, link, by omega, by simp only [axI]; omega⟩
  · by_cases h2 : link < 2 * N
    · exact ⟨1, link - N, by omega, by simp only [axI]; omega⟩
    · exact ⟨2, link - 2 * N, by omega, by simp only [axI]; omega⟩

end Go.Proofs.YtlahfffgmfjpaaaGreatDoor

/-
  wire.line hands out the cables of a line, one behind the other, and stops where a round says so.
-/
namespace Go.Proofs.YtlahfffgmfjpaaaGreatDoor
open Go.RowKit Go.Shelf

attribute [local go_sem] Oper.semAt_some ext_const

/-- So many cables of a line, from m on. -/
def seqW (d0 d1 d2 m : Int) (k : Fin 3) (n : Nat) : List Int := (List.range n).map fun i : Nat => cabW d0 d1 d2 k (onD d0 d1 d2 m k (i : Int))
theorem seqW_len (d0 d1 d2 m : Int) (k : Fin 3) (n : Nat) : (seqW d0 d1 d2 m k n).length = n := by simp [seqW]
theorem seqW_succ (d0 d1 d2 m : Int) (k : Fin 3) (n : Nat) : seqW d0 d1 d2 m k (n + 1) = seqW d0 d1 d2 m k n ++ [cabW d0 d1 d2 k (onD d0 d1 d2 m k (n : Int))] := by
  simp [seqW, List.range_succ]
theorem seqW_pre (d0 d1 d2 m : Int) (k : Fin 3) {n n' : Nat} (h : n ≤ n') : seqW d0 d1 d2 m k n <+: seqW d0 d1 d2 m k n' := by
  obtain ⟨j, rfl⟩ := Nat.le.dest h
  induction j with
  | zero => exact List.prefix_refl _
  | succ j ih => exact (ih (by omega)).trans (by rw [← Nat.add_assoc, seqW_succ]; exact List.prefix_append _ _)
/-- All that a line hands out. -/
def outW (d0 d1 d2 m : Int) (k : Fin 3) : List Int := if 1 < dimAt d0 d1 d2 k then seqW d0 d1 d2 m k (dimAt d0 d1 d2 k).toNat else []

theorem abide_below {J : List Int → World → Prop} {B : Nat} (hJ : AbidesFrom B J) {pre : List Int} {W W' : World} (h : J pre W) (hb : Below W.heap.size W W') : J pre W' :=
  hJ pre W W' none h ⟨hb.os, hb.tape, hb.output, hb.size, fun k hk _ => hb.block k hk⟩ (fun r e => by cases e)

set_option maxHeartbeats 400000 in
theorem line_calls (d0 d1 d2 axis m : Int) (w : World) :
    Calls Tryz.prog 146 #[A3 d0 d1 d2, I axis, I m] w fun e w' => e = .returned (.func (.func 152) #[] #[.pointer (some ⟨w.heap.size, 0, none⟩), .pointer (some ⟨w.heap.size + 1, 0, none⟩), .pointer (some ⟨w.heap.size + 1 + 1, 0, none⟩)]) ∧
      w' = ((w.alloc (.cells #[I d0, I d1, I d2] 23)).alloc (.cells #[I axis] 3)).alloc (.cells #[I m] 3) := by
  go_enter Tryz.func146, Tryz.ntmps146
  go_wp2
  go_ret
  exact ⟨rfl, rfl⟩

set_option maxRecDepth 100000 in
set_option maxHeartbeats 2000000 in
/-- The closure's rounds, along an axis that has cables. -/
theorem line1_yes {d0 d1 d2 m : Int} (hm : mayD d0 d1 d2) (hn : 0 ≤ m ∧ m < d0 * d1 * d2) (k : Fin 3) (h1 : 1 < dimAt d0 d1 d2 k) (n : Nat) (h1n : 1 ≤ n) (l Bd Ba Bm n₀ : Nat) (J Jx : List Int → World → Prop) (W : World)
    (hd : Bd < n₀) (ha : Ba < n₀) (hmm : Bm < n₀) (hn₀ : n₀ ≤ W.heap.size) (bd : Blk W Bd 23 #[I d0, I d1, I d2]) (ba : Blk W Ba 3 #[I (axI k)]) (bm : Blk W Bm 3 #[I m]) (hJ : AbidesFrom W.heap.size J)
    (hY : ∀ pre x W1, J pre W1 → pre.length < (outW d0 d1 d2 m k).length → YieldAt Fence.wide (n - 1) Tryz.prog l #[I x] W1 fun e W' =>
      (e = .returned (.bool true) ∧ J (pre ++ [x]) W' ∧ Below n₀ W1 W') ∨ (e = .returned (.bool false) ∧ Jx (pre ++ [x]) W')) (h0 : J [] W) :
    CallsIn Fence.wide n Tryz.prog 152 #[.func (.yield l) #[] #[], .pointer (some ⟨Bd, 0, none⟩), .pointer (some ⟨Ba, 0, none⟩), .pointer (some ⟨Bm, 0, none⟩)] W fun e W' =>
      (∃ v, e = .returned v) ∧ ((∃ xs, xs = outW d0 d1 d2 m k ∧ J xs W') ∨ (∃ pre, pre <+: outW d0 d1 d2 m k ∧ Jx pre W')) := by
  have eo : outW d0 d1 d2 m k = seqW d0 d1 d2 m k (dimAt d0 d1 d2 k).toNat := by unfold outW; rw [if_pos h1]
  rw [eo] at hY ⊢
  rw [seqW_len] at hY
  have hk := dimAt_ok hm k
  unfold okD at hk
  obtain ⟨dn, hdn⟩ : ∃ dn : Nat, dimAt d0 d1 d2 k = (dn : Int) := ⟨(dimAt d0 d1 d2 k).toNat, by omega⟩
  have edn : (dimAt d0 d1 d2 k).toNat = dn := by omega
  rw [edn] at hY ⊢
  have hdn1 : 1 ≤ dn ∧ dn ≤ 16 := by omega
  have HN : Hid (0 ≤ m ∧ m < d0 * d1 * d2) := hn
  have HY : Hid (∀ pre x W1, J pre W1 → pre.length < dn → YieldAt Fence.wide (n - 1) Tryz.prog l #[I x] W1 fun e W' =>
      (e = .returned (.bool true) ∧ J (pre ++ [x]) W' ∧ Below n₀ W1 W') ∨ (e = .returned (.bool false) ∧ Jx (pre ++ [x]) W')) := hY
  have HS : Hid (∀ (i : Nat) w, Calls Tryz.prog 150 #[A3 d0 d1 d2, I m, I (axI k), I (i : Int)] w fun x W' => x = .returned (.tuple #[I (onD d0 d1 d2 m k i), I 0]) ∧ Below w.heap.size w W') := fun i w => step_yes w hm hn k
  have HL : Hid (∀ (i : Nat) w, Calls Tryz.prog 153 #[A3 d0 d1 d2, I (axI k), I (onD d0 d1 d2 m k i)] w fun x W' => x = .returned (.tuple #[I (cabW d0 d1 d2 k (onD d0 d1 d2 m k i)), I 0]) ∧ Below w.heap.size w W') := fun i w => link_yes w hm (on_node hm hn k i) rfl h1
  have HSu : Hid (∀ i : Nat, seqW d0 d1 d2 m k (i + 1) = seqW d0 d1 d2 m k i ++ [cabW d0 d1 d2 k (onD d0 d1 d2 m k (i : Int))]) := fun i => seqW_succ d0 d1 d2 m k i
  have HPre : Hid (∀ {i j : Nat}, i ≤ j → seqW d0 d1 d2 m k i <+: seqW d0 d1 d2 m k j) := fun h => seqW_pre d0 d1 d2 m k h
  have HJ : Hid (AbidesFrom W.heap.size J) := hJ
  have HLen : Hid (∀ i, (seqW d0 d1 d2 m k i).length = i) := fun i => seqW_len d0 d1 d2 m k i
  have hS0 : seqW d0 d1 d2 m k 0 = [] := rfl
  generalize hC : (fun i : Nat => cabW d0 d1 d2 k (onD d0 d1 d2 m k (i : Int))) = C at *
  generalize hO : (fun i : Nat => onD d0 d1 d2 m k (i : Int)) = O at *
  have HC : Hid (∀ i : Nat, cabW d0 d1 d2 k (onD d0 d1 d2 m k (i : Int)) = C i) := fun i => congrFun hC i
  have HO : Hid (∀ i : Nat, onD d0 d1 d2 m k (i : Int) = O i) := fun i => congrFun hO i
  have HS2 : Hid (∀ (i : Nat) w, Calls Tryz.prog 150 #[A3 d0 d1 d2, I m, I (axI k), I (i : Int)] w fun x W' => x = .returned (.tuple #[I (O i), I 0]) ∧ Below w.heap.size w W') := fun i w => by rw [← HO.out i]; exact HS.out i w
  have HL2 : Hid (∀ (i : Nat) w, Calls Tryz.prog 153 #[A3 d0 d1 d2, I (axI k), I (O i)] w fun x W' => x = .returned (.tuple #[I (C i), I 0]) ∧ Below w.heap.size w W') := fun i w => by rw [← HO.out i, ← HC.out i]; exact HL.out i w
  have HSu2 : Hid (∀ i : Nat, seqW d0 d1 d2 m k (i + 1) = seqW d0 d1 d2 m k i ++ [C i]) := fun i => by rw [← HC.out i]; exact HSu.out i
  generalize seqW d0 d1 d2 m k = S at *
  have b0 := bd.cell 0
  have b1 := bd.cell 1
  have b2 := bd.cell 2
  have a0 := ba.cell 0
  simp at b0 b1 b2 a0
  have hid : Hid (W.cell? ⟨Bd, (axI k).toNat, none⟩ = some (I (dn : Int))) := by
    rw [← hdn]
    rcases fin3 k with rfl | rfl | rfl
    · exact bd.cell 0
    · exact bd.cell 1
    · exact bd.cell 2
  clear hn hY hJ HS HL HSu hC hO HC HO eo edn hk
  rcases fin3 k with rfl | rfl | rfl
  all_goals
    simp only [axI, dimAt] at *
    subst hdn
    refine callsIn_of_wp Tryz.func152 rfl trivial ?_ rfl
    simp only [Tryz.ntmps152, List.size_toArray, List.length_cons, List.length_nil, Nat.reduceAdd, Nat.reduceSub, Array.replicate_succ, Array.replicate_zero, List.push_toArray, List.append_toArray, List.nil_append, List.cons_append]
    gi_wp2
    gi_loopw [12] (fun i wr => ∃ j : Nat, j ≤ dn ∧ i = .int .i64 j ∧ J (S j) wr ∧ Below n₀ W wr) (fun i _ => dn - (RowKit.intOf i).toNat)
    case atStart => exact ⟨0, by omega, rfl, by rw [hS0]; exact h0, Below.refl _ _⟩
    case round =>
      obtain ⟨j, hj, rfl, hJj, hT⟩ := hrel
      have bd' := bd.below hT hd
      have ba' := ba.below hT ha
      have bm' := bm.below hT hmm
      have c0 := bd'.cell 0
      have c1 := bd'.cell 1
      have c2 := bd'.cell 2
      have c3 := ba'.cell 0
      have c4 := bm'.cell 0
      simp at c0 c1 c2 c3 c4
      by_cases hlt : (j : Int) < (dn : Int)
      · gi_wp2_with fail
        refine ⟨trivial, (callsIn_wide.2 (HS2.out j wr)).mono ?_⟩
        rintro e w1 ⟨rfl, hB1⟩
        have bd1 := bd'.later hB1
        have ba1 := ba'.later hB1
        have bm1 := bm'.later hB1
        have e0 := bd1.cell 0
        have e1 := bd1.cell 1
        have e2 := bd1.cell 2
        have e3 := ba1.cell 0
        simp at e0 e1 e2 e3
        gi_wp2_with fail
        refine ⟨trivial, (callsIn_wide.2 (HL2.out j w1)).mono ?_⟩
        rintro e w2 ⟨rfl, hB2⟩
        have hJ2 : J (S j) w2 := abide_below HJ.out (abide_below HJ.out hJj hB1) hB2
        have hT2 : Below n₀ W w2 := hT.trans ((then_below hB1 hB2).mono (by have := hT.size; omega))
        obtain ⟨f1, t1, as1, bo1, hy1, hR1⟩ := HY.out (S j) (C j) w2 hJ2 (by rw [HLen.out]; omega)
        gi_wp2
        refine hR1.mono ?_
        rintro e W3 (⟨rfl, hJ3, hk3⟩ | ⟨rfl, hJx3⟩)
        · gi_wp2
          go_roundw
          case rel => exact ⟨j + 1, by omega, by go_num, by rw [HSu2.out]; exact hJ3, hT2.trans hk3⟩
          case measure => simp [RowKit.intOf]; omega
        · gi_wp2
          refine bodyPost_ret (results_none rfl _ _ _) rfl ?_
          exact ⟨⟨_, rfl⟩, .inr ⟨_, by rw [← HSu2.out]; exact HPre.out (by omega), hJx3⟩⟩
      · obtain rfl : j = dn := by omega
        gi_wp2
        go_end0
        exact ⟨⟨_, rfl⟩, .inl hJj⟩

set_option maxRecDepth 100000 in
set_option maxHeartbeats 2000000 in
/-- .. along one that has none: no round. -/
theorem line1_no {d0 d1 d2 m : Int} (hm : mayD d0 d1 d2) (hn : 0 ≤ m ∧ m < d0 * d1 * d2) (k : Fin 3) (h1 : ¬ 1 < dimAt d0 d1 d2 k) (n : Nat) (h1n : 1 ≤ n) (l Bd Ba Bm : Nat) (J : List Int → World → Prop) (W : World)
    (bd : Blk W Bd 23 #[I d0, I d1, I d2]) (ba : Blk W Ba 3 #[I (axI k)]) (bm : Blk W Bm 3 #[I m]) (hJ : AbidesFrom W.heap.size J) (h0 : J [] W) :
    CallsIn Fence.wide n Tryz.prog 152 #[.func (.yield l) #[] #[], .pointer (some ⟨Bd, 0, none⟩), .pointer (some ⟨Ba, 0, none⟩), .pointer (some ⟨Bm, 0, none⟩)] W fun e W' =>
      (∃ v, e = .returned v) ∧ J [] W' := by
  have hk := dimAt_ok hm k
  unfold okD at hk
  have hdn : dimAt d0 d1 d2 k = 1 := by omega
  have HJ : Hid (AbidesFrom W.heap.size J) := hJ
  have HS : Hid (∀ w, Calls Tryz.prog 150 #[A3 d0 d1 d2, I m, I (axI k), I 0] w fun x W' => x = .returned (.tuple #[I (onD d0 d1 d2 m k 0), I 0]) ∧ Below w.heap.size w W') := fun w => step_yes w hm hn k
  have HL : Hid (∀ w, Calls Tryz.prog 153 #[A3 d0 d1 d2, I (axI k), I (onD d0 d1 d2 m k 0)] w fun x W' => x = .returned (.tuple #[I 0, I 6]) ∧ Below w.heap.size w W') := fun w => link_none w hm (on_node hm hn k 0) rfl h1
  generalize onD d0 d1 d2 m k 0 = o at *
  have b0 := bd.cell 0
  have b1 := bd.cell 1
  have b2 := bd.cell 2
  have a0 := ba.cell 0
  have m0 := bm.cell 0
  simp at b0 b1 b2 a0 m0
  clear hn hJ h1 hk
  rcases fin3 k with rfl | rfl | rfl
  all_goals
    simp only [axI, dimAt] at *
    subst hdn
    refine callsIn_of_wp Tryz.func152 rfl trivial ?_ rfl
    simp only [Tryz.ntmps152, List.size_toArray, List.length_cons, List.length_nil, Nat.reduceAdd, Nat.reduceSub, Array.replicate_succ, Array.replicate_zero, List.push_toArray, List.append_toArray, List.nil_append, List.cons_append]
    gi_wp2
    gi_loopw [12] (fun i wr => i = .int .i64 0 ∧ wr = W) (fun _ _ => 0)
    case atStart => exact ⟨rfl, by trivial⟩
    case round =>
      obtain ⟨rfl, hw⟩ := hrel
      subst hw
      gi_wp2_with fail
      refine ⟨trivial, (callsIn_wide.2 (HS.out wr)).mono ?_⟩
      rintro e w1 ⟨rfl, hB1⟩
      have bd1 := bd.later hB1
      have ba1 := ba.later hB1
      have e0 := bd1.cell 0
      have e1 := bd1.cell 1
      have e2 := bd1.cell 2
      have e3 := ba1.cell 0
      simp at e0 e1 e2 e3
      gi_wp2_with fail
      refine ⟨trivial, (callsIn_wide.2 (HL.out w1)).mono ?_⟩
      rintro e w2 ⟨rfl, hB2⟩
      have hJ2 : J [] w2 := abide_below HJ.out (abide_below HJ.out h0 hB1) hB2
      gi_wp2
      refine ⟨fun f h => (by cases h), ?_⟩
      gi_wp2
      refine bodyPost_ret (results_none rfl _ _ _) rfl ?_
      exact ⟨⟨_, rfl⟩, hJ2⟩

/-- What wire.line hands back, as a range over it asks. -/
theorem line_stops {d0 d1 d2 m : Int} (hm : mayD d0 d1 d2) (hn : 0 ≤ m ∧ m < d0 * d1 * d2) (k : Fin 3) (n : Nat) (h1n : 1 ≤ n) (Bd Ba Bm n₀ : Nat) (w : World)
    (hd : Bd < n₀) (ha : Ba < n₀) (hmm : Bm < n₀) (hn₀ : n₀ ≤ w.heap.size) (bd : Blk w Bd 23 #[I d0, I d1, I d2]) (ba : Blk w Ba 3 #[I (axI k)]) (bm : Blk w Bm 3 #[I m]) :
    SeqStopsK Fence.wide n Tryz.prog 152 #[.pointer (some ⟨Bd, 0, none⟩), .pointer (some ⟨Ba, 0, none⟩), .pointer (some ⟨Bm, 0, none⟩)] (fun x : Int => #[I x]) (Below n₀) (fun xs => xs = outW d0 d1 d2 m k) (fun pre => pre <+: outW d0 d1 d2 m k) (outW d0 d1 d2 m k).length w := fun l J Jx W hW hJ _ hY h0 => by
  have hB := hW.mono hn₀
  by_cases h1 : 1 < dimAt d0 d1 d2 k
  · exact line1_yes hm hn k h1 n h1n l Bd Ba Bm n₀ J Jx W hd ha hmm (Nat.le_trans hn₀ hW.size) (bd.below hB hd) (ba.below hB ha) (bm.below hB hmm) hJ hY h0
  · refine (line1_no hm hn k h1 n h1n l Bd Ba Bm J W (bd.below hB hd) (ba.below hB ha) (bm.below hB hmm) hJ h0).mono ?_
    rintro e W' ⟨he, hj⟩
    exact ⟨he, .inl ⟨[], by unfold outW; rw [if_neg h1], hj⟩⟩

end Go.Proofs.YtlahfffgmfjpaaaGreatDoor

/-
  wire.checkLine, wire.wired, wire.Many, wire.Link, wire.Ends: what each call answers, for every input; nothing that lay before is turned.
-/
import Derived.Test.YtbedhpooeabehaaGreatDoorPart8
import Derived.Test.YtbedhpooeabehaaGreatDoorPart2
import Derived.Test.YtbedhpooeabehaaGreatDoorPart5
import Derived.Shelf.Sort.Plain
import Derived.Shelf.Lay
import Derived.Sort.OwnSortedInts
import Derived.Ground.NamesProg
namespace Go.Proofs.YtbedhpooeabehaaGreatDoor
open Go.RowKit Go.Shelf

attribute [local go_sem] Oper.semAt_some ext_const

/-- An axis that may be, and a midplane. -/
def lineOk (d0 d1 d2 axis m : Int) : Prop := (0 ≤ m ∧ m < d0 * d1 * d2) ∧ (0 ≤ axis ∧ axis < 3)
/-- What is refused, and with which error. -/
def Refused (d0 d1 d2 axis m e : Int) : Prop := (¬ mayD d0 d1 d2 ∧ e = 8) ∨ (mayD d0 d1 d2 ∧ ¬ lineOk d0 d1 d2 axis m ∧ e = 2)

theorem Refused.ne {d0 d1 d2 axis m e : Int} (h : Refused d0 d1 d2 axis m e) : (e != 0) = true := by
  rcases h with ⟨_, rfl⟩ | ⟨_, _, rfl⟩ <;> decide
theorem refused_or (d0 d1 d2 axis m : Int) : (∃ e, Refused d0 d1 d2 axis m e) ∨ (mayD d0 d1 d2 ∧ (0 ≤ m ∧ m < d0 * d1 * d2) ∧ ∃ k : Fin 3, axis = axI k) := by
  by_cases h : mayD d0 d1 d2
  · by_cases h' : lineOk d0 d1 d2 axis m
    · refine .inr ⟨h, h'.1, ?_⟩
      have := h'.2
      have : axis = 0 ∨ axis = 1 ∨ axis = 2 := by omega
      rcases this with rfl | rfl | rfl
      · exact ⟨0, rfl⟩
      · exact ⟨1, rfl⟩
      · exact ⟨2, rfl⟩
    · exact .inl ⟨2, .inr ⟨h, h', rfl⟩⟩
  · exact .inl ⟨8, .inl ⟨h, rfl⟩⟩

theorem step_ref {d0 d1 d2 axis m e : Int} (by_ : Int) (w : World) (h : Refused d0 d1 d2 axis m e) :
    Calls Tryz.prog 42 #[A3 d0 d1 d2, I m, I axis, I by_] w fun x W' => x = .returned (.tuple #[I 0, I e]) ∧ Below w.heap.size w W' := by
  rcases h with ⟨h, rfl⟩ | ⟨h, h', rfl⟩
  · exact step_err m axis by_ 8 w (by decide) (fun w => of_bad m w h)
  · by_cases hn : 0 ≤ m ∧ m < d0 * d1 * d2
    · exact step_axis w h hn (fun ha => h' ⟨hn, ha⟩)
    · exact step_err m axis by_ 2 w (by decide) (fun w => of_no w h hn)

set_option maxHeartbeats 400000 in
theorem checkl_of {d0 d1 d2 axis m : Int} (r e : Int) (w : World) (hc : ∀ w, Calls Tryz.prog 42 #[A3 d0 d1 d2, I m, I axis, I 0] w fun x W' => x = .returned (.tuple #[I r, I e]) ∧ Below w.heap.size w W') :
    Calls Tryz.prog 81 #[A3 d0 d1 d2, I axis, I m] w fun x W' => x = .returned (I e) ∧ Below w.heap.size w W' := by
  have HH : Hid (∀ w, Calls Tryz.prog 42 #[A3 d0 d1 d2, I m, I axis, I 0] w fun x W' => x = .returned (.tuple #[I r, I e]) ∧ Below w.heap.size w W') := hc
  clear hc
  go_enter Tryz.func81, Tryz.ntmps81
  go_wp2_with fail
  refine (HH.out _).mono ?_
  rintro x w1 ⟨rfl, hB⟩
  go_wp2
  go_ret
  exact ⟨rfl, then_below ((Below.refl _ w).alloc (Nat.le_refl _) _) hB⟩

theorem checkl_ref {d0 d1 d2 axis m e : Int} (w : World) (h : Refused d0 d1 d2 axis m e) :
    Calls Tryz.prog 81 #[A3 d0 d1 d2, I axis, I m] w fun x W' => x = .returned (I e) ∧ Below w.heap.size w W' :=
  checkl_of 0 e w fun w => step_ref 0 w h
theorem checkl_yes {d0 d1 d2 axis m : Int} (w : World) (hm : mayD d0 d1 d2) (hn : 0 ≤ m ∧ m < d0 * d1 * d2) {k : Fin 3} (hk : axis = axI k) :
    Calls Tryz.prog 81 #[A3 d0 d1 d2, I axis, I m] w fun x W' => x = .returned (I 0) ∧ Below w.heap.size w W' := by
  subst hk
  exact checkl_of _ 0 w fun w => step_yes w hm hn k

set_option maxHeartbeats 400000 in
theorem wired_calls {d0 d1 d2 axis : Int} (w : World) {k : Fin 3} (hk : axis = axI k) {b : Bool} (hb : b = decide (1 < dimAt d0 d1 d2 k)) :
    Calls Tryz.prog 92 #[A3 d0 d1 d2, I axis] w fun x W' => x = .returned (.bool b) ∧ Below w.heap.size w W' := by
  have HB : Hid (b = decide (1 < dimAt d0 d1 d2 k)) := hb
  clear hb
  subst hk
  rcases fin3 k with rfl | rfl | rfl
  all_goals
    simp only [axI, dimAt] at HB ⊢
    go_enter Tryz.func92, Tryz.ntmps92
    go_wp2
    go_ret
    exact ⟨by rw [HB.out]; rfl, (Below.refl _ w).alloc (Nat.le_refl _) _⟩

set_option maxHeartbeats 400000 in
theorem wmany_no {d0 d1 d2 : Int} (w : World) (hm : ¬ mayD d0 d1 d2) :
    Calls Tryz.prog 50 #[A3 d0 d1 d2] w fun e W' => e = .returned (.tuple #[I 0, I 8]) ∧ Below w.heap.size w W' := by
  go_enter Tryz.func50, Tryz.ntmps50
  go_wp2_with fail
  refine (many_no _ hm).mono ?_
  rintro e w1 ⟨rfl, hB⟩
  go_wp2
  go_ret2
  exact ⟨rfl, then_below ((Below.refl _ w).alloc (Nat.le_refl _) _) hB⟩
set_option maxHeartbeats 400000 in
theorem wmany_yes {d0 d1 d2 : Int} (w : World) (hm : mayD d0 d1 d2) :
    Calls Tryz.prog 50 #[A3 d0 d1 d2] w fun e W' => e = .returned (.tuple #[I (3 * (d0 * d1 * d2)), I 0]) ∧ Below w.heap.size w W' := by
  have hN := N_bd hm
  have HM : Hid (∀ w, Calls Tryz.prog 20 #[A3 d0 d1 d2] w fun e W' => e = .returned (.tuple #[I (d0 * d1 * d2), I 0]) ∧ Below w.heap.size w W') := fun w => many_yes w hm
  generalize d0 * d1 * d2 = N at *
  go_enter Tryz.func50, Tryz.ntmps50
  go_wp2_with fail
  refine (HM.out _).mono ?_
  rintro e w1 ⟨rfl, hB⟩
  go_wp2
  go_ret2
  exact ⟨rfl, then_below ((Below.refl _ w).alloc (Nat.le_refl _) _) hB⟩

set_option maxHeartbeats 400000 in
theorem link_ref {d0 d1 d2 axis m e : Int} (w : World) (h : Refused d0 d1 d2 axis m e) :
    Calls Tryz.prog 88 #[A3 d0 d1 d2, I axis, I m] w fun x W' => x = .returned (.tuple #[I 0, I e]) ∧ Below w.heap.size w W' := by
  have he := h.ne
  have H : Hid (Refused d0 d1 d2 axis m e) := h
  clear h
  go_enter Tryz.func88, Tryz.ntmps88
  go_wp2_with fail
  refine (checkl_ref _ H.out).mono ?_
  rintro x w1 ⟨rfl, hB⟩
  go_wp2
  go_ret2
  exact ⟨rfl, then_below ((Below.refl _ w).alloc (Nat.le_refl _) _) hB⟩

set_option maxHeartbeats 400000 in
theorem link_none {d0 d1 d2 axis m : Int} (w : World) (hm : mayD d0 d1 d2) (hn : 0 ≤ m ∧ m < d0 * d1 * d2) {k : Fin 3} (hk : axis = axI k) (h1 : ¬ 1 < dimAt d0 d1 d2 k) :
    Calls Tryz.prog 88 #[A3 d0 d1 d2, I axis, I m] w fun x W' => x = .returned (.tuple #[I 0, I 6]) ∧ Below w.heap.size w W' := by
  have HN : Hid (0 ≤ m ∧ m < d0 * d1 * d2) := hn
  have HK : Hid (axis = axI k) := hk
  have HW : Hid (false = decide (1 < dimAt d0 d1 d2 k)) := (decide_eq_false h1).symm
  clear hn hk h1
  go_enter Tryz.func88, Tryz.ntmps88
  go_wp2_with fail
  refine (checkl_yes _ hm HN.out HK.out).mono ?_
  rintro x w1 ⟨rfl, hB⟩
  have g0 := (Blk.new w 23 #[I d0, I d1, I d2]).later hB
  have c0 := g0.cell 0
  have c1 := g0.cell 1
  have c2 := g0.cell 2
  simp at c0 c1 c2
  go_wp2_with fail
  refine (wired_calls _ HK.out HW.out).mono ?_
  rintro x w2 ⟨rfl, hB2⟩
  go_wp2
  go_ret2
  exact ⟨rfl, then_below (then_below ((Below.refl _ w).alloc (Nat.le_refl _) _) hB) hB2⟩

theorem cab_wrap {d0 d1 d2 m : Int} (hm : mayD d0 d1 d2) (hn : 0 ≤ m ∧ m < d0 * d1 * d2) (k : Fin 3) : wrap64 (wrap64 (axI k * (d0 * d1 * d2)) + m) = cabW d0 d1 d2 k m := by
  have hN := N_bd hm
  unfold cabW
  generalize d0 * d1 * d2 = N at *
  match k with
  | 0 => simp only [axI]; unfold wrap64; omega
  | 1 => simp only [axI]; unfold wrap64; omega
  | 2 => simp only [axI]; unfold wrap64; omega

set_option maxHeartbeats 400000 in
theorem link_yes {d0 d1 d2 axis m : Int} (w : World) (hm : mayD d0 d1 d2) (hn : 0 ≤ m ∧ m < d0 * d1 * d2) {k : Fin 3} (hk : axis = axI k) (h1 : 1 < dimAt d0 d1 d2 k) :
    Calls Tryz.prog 88 #[A3 d0 d1 d2, I axis, I m] w fun x W' => x = .returned (.tuple #[I (cabW d0 d1 d2 k m), I 0]) ∧ Below w.heap.size w W' := by
  have hcw := cab_wrap hm hn k
  rw [← hk] at hcw
  have HN : Hid (0 ≤ m ∧ m < d0 * d1 * d2) := hn
  have HM : Hid (∀ w, Calls Tryz.prog 20 #[A3 d0 d1 d2] w fun e W' => e = .returned (.tuple #[I (d0 * d1 * d2), I 0]) ∧ Below w.heap.size w W') := fun w => many_yes w hm
  have HL : Hid (∀ w, Calls Tryz.prog 81 #[A3 d0 d1 d2, I axis, I m] w fun x W' => x = .returned (I 0) ∧ Below w.heap.size w W') := fun w => checkl_yes w hm hn hk
  have HW : Hid (∀ w, Calls Tryz.prog 92 #[A3 d0 d1 d2, I axis] w fun x W' => x = .returned (.bool true) ∧ Below w.heap.size w W') := fun w => wired_calls w hk (decide_eq_true h1).symm
  generalize cabW d0 d1 d2 k m = c at *
  generalize d0 * d1 * d2 = N at *
  have HC : Hid (wrap64 (wrap64 (axis * N) + m) = c) := hcw
  clear hcw hn hk h1 HN
  go_enter Tryz.func88, Tryz.ntmps88
  go_wp2_with fail
  refine (HL.out _).mono ?_
  rintro x w1 ⟨rfl, hB⟩
  have g0 := (Blk.new w 23 #[I d0, I d1, I d2]).later hB
  have c0 := g0.cell 0
  have c1 := g0.cell 1
  have c2 := g0.cell 2
  simp at c0 c1 c2
  go_wp2_with fail
  refine (HW.out _).mono ?_
  rintro x w2 ⟨rfl, hB2⟩
  have g1 := g0.later hB2
  have k0 := g1.cell 0
  have k1 := g1.cell 1
  have k2 := g1.cell 2
  simp at k0 k1 k2
  go_wp2_with fail
  refine (HM.out _).mono ?_
  rintro x w3 ⟨rfl, hB3⟩
  go_wp2
  go_ret2
  exact ⟨by rw [HC.out]; rfl, then_below (then_below (then_below ((Below.refl _ w).alloc (Nat.le_refl _) _) hB) hB2) hB3⟩

end Go.Proofs.YtbedhpooeabehaaGreatDoor

/-
  wire.Ends: what it answers, for every input; nothing that lay before is turned.
-/
namespace Go.Proofs.YtbedhpooeabehaaGreatDoor
open Go.RowKit Go.Shelf

attribute [local go_sem] Oper.semAt_some ext_const

theorem results_tmp4 {fn : Func} {t u v x : Tmp} (h : fn.results = #[.tmp t, .tmp u, .tmp v, .tmp x]) (tmps : Array Value) (P : Program) (w : World) :
    (results fn tmps).run P w = .ok (.tuple #[tmps.getD t undef, tmps.getD u undef, tmps.getD v undef, tmps.getD x undef]) w := by
  simp [results, h]

/-- Each number of a cable is an axis and a midplane. -/
theorem cab_of {d0 d1 d2 link : Int} (h : mayD d0 d1 d2) (hl : 0 ≤ link ∧ link < 3 * (d0 * d1 * d2)) : ∃ (k : Fin 3) (m : Int), (0 ≤ m ∧ m < d0 * d1 * d2) ∧ link = cabW d0 d1 d2 k m := by
  have hN := N_bd h
  unfold cabW
  generalize d0 * d1 * d2 = N at *
  by_cases h1 : link < N
  · exact ⟨0, link, by omega, by simp only [axI]; omega⟩
  · by_cases h2 : link < 2 * N
    · exact ⟨1, link - N, by omega, by simp only [axI]; omega⟩
    · exact ⟨2, link - 2 * N, by omega, by simp only [axI]; omega⟩

end Go.Proofs.YtbedhpooeabehaaGreatDoor

/-
  wire.line hands out the cables of a line, one behind the other, and stops where a round says so.
-/
namespace Go.Proofs.YtbedhpooeabehaaGreatDoor
open Go.RowKit Go.Shelf

attribute [local go_sem] Oper.semAt_some ext_const

/-- So many cables of a line, from m on. -/
def seqW (d0 d1 d2 m : Int) (k : Fin 3) (n : Nat) : List Int := (List.range n).map fun i : Nat => cabW d0 d1 d2 k (onD d0 d1 d2 m k (i : Int))
theorem seqW_len (d0 d1 d2 m : Int) (k : Fin 3) (n : Nat) : (seqW d0 d1 d2 m k n).length = n := by simp [seqW]
theorem seqW_succ (d0 d1 d2 m : Int) (k : Fin 3) (n : Nat) : seqW d0 d1 d2 m k (n + 1) = seqW d0 d1 d2 m k n ++ [cabW d0 d1 d2 k (onD d0 d1 d2 m k (n : Int))] := by
  simp [seqW, List.range_succ]
theorem seqW_pre (d0 d1 d2 m : Int) (k : Fin 3) {n n' : Nat} (h : n ≤ n') : seqW d0 d1 d2 m k n <+: seqW d0 d1 d2 m k n' := by
  obtain ⟨j, rfl⟩ := Nat.le.dest h
  induction j with
  | zero => exact List.prefix_refl _
  | succ j ih => exact (ih (by omega)).trans (by rw [← Nat.add_assoc, seqW_succ]; exact List.prefix_append _ _)
/-- All that a line hands out. -/
def outW (d0 d1 d2 m : Int) (k : Fin 3) : List Int := if 1 < dimAt d0 d1 d2 k then seqW d0 d1 d2 m k (dimAt d0 d1 d2 k).toNat else []

theorem abide_below {J : List Int → World → Prop} {B : Nat} (hJ : AbidesFrom B J) {pre : List Int} {W W' : World} (h : J pre W) (hb : Below W.heap.size W W') : J pre W' :=
  hJ pre W W' none h ⟨hb.os, hb.tape, hb.output, hb.size, fun k hk _ => hb.block k hk⟩ (fun r e => by cases e)

set_option maxHeartbeats 400000 in
theorem line_calls (d0 d1 d2 axis m : Int) (w : World) :
    Calls Tryz.prog 83 #[A3 d0 d1 d2, I axis, I m] w fun e w' => e = .returned (.func (.func 87) #[] #[.pointer (some ⟨w.heap.size, 0, none⟩), .pointer (some ⟨w.heap.size + 1, 0, none⟩), .pointer (some ⟨w.heap.size + 1 + 1, 0, none⟩)]) ∧
      w' = ((w.alloc (.cells #[I d0, I d1, I d2] 23)).alloc (.cells #[I axis] 3)).alloc (.cells #[I m] 3) := by
  go_enter Tryz.func83, Tryz.ntmps83
  go_wp2
  go_ret
  exact ⟨rfl, rfl⟩

set_option maxRecDepth 100000 in
set_option maxHeartbeats 2000000 in
/-- The closure's rounds, along an axis that has cables. -/
theorem line1_yes {d0 d1 d2 m : Int} (hm : mayD d0 d1 d2) (hn : 0 ≤ m ∧ m < d0 * d1 * d2) (k : Fin 3) (h1 : 1 < dimAt d0 d1 d2 k) (n : Nat) (h1n : 1 ≤ n) (l Bd Ba Bm n₀ : Nat) (J Jx : List Int → World → Prop) (W : World)
    (hd : Bd < n₀) (ha : Ba < n₀) (hmm : Bm < n₀) (hn₀ : n₀ ≤ W.heap.size) (bd : Blk W Bd 23 #[I d0, I d1, I d2]) (ba : Blk W Ba 3 #[I (axI k)]) (bm : Blk W Bm 3 #[I m]) (hJ : AbidesFrom W.heap.size J)
    (hY : ∀ pre x W1, J pre W1 → pre.length < (outW d0 d1 d2 m k).length → YieldAt Fence.wide (n - 1) Tryz.prog l #[I x] W1 fun e W' =>
      (e = .returned (.bool true) ∧ J (pre ++ [x]) W' ∧ Below n₀ W1 W') ∨ (e = .returned (.bool false) ∧ Jx (pre ++ [x]) W')) (h0 : J [] W) :
    CallsIn Fence.wide n Tryz.prog 87 #[.func (.yield l) #[] #[], .pointer (some ⟨Bd, 0, none⟩), .pointer (some ⟨Ba, 0, none⟩), .pointer (some ⟨Bm, 0, none⟩)] W fun e W' =>
      (∃ v, e = .returned v) ∧ ((∃ xs, xs = outW d0 d1 d2 m k ∧ J xs W') ∨ (∃ pre, pre <+: outW d0 d1 d2 m k ∧ Jx pre W')) := by
  have eo : outW d0 d1 d2 m k = seqW d0 d1 d2 m k (dimAt d0 d1 d2 k).toNat := by unfold outW; rw [if_pos h1]
  rw [eo] at hY ⊢
  rw [seqW_len] at hY
  have hk := dimAt_ok hm k
  unfold okD at hk
  obtain ⟨dn, hdn⟩ : ∃ dn : Nat, dimAt d0 d1 d2 k = (dn : Int) := ⟨(dimAt d0 d1 d2 k).toNat, by omega⟩
  have edn : (dimAt d0 d1 d2 k).toNat = dn := by omega
  rw [edn] at hY ⊢
  have hdn1 : 1 ≤ dn ∧ dn ≤ 16 := by omega
  have HN : Hid (0 ≤ m ∧ m < d0 * d1 * d2) := hn
  have HY : Hid (∀ pre x W1, J pre W1 → pre.length < dn → YieldAt Fence.wide (n - 1) Tryz.prog l #[I x] W1 fun e W' =>
      (e = .returned (.bool true) ∧ J (pre ++ [x]) W' ∧ Below n₀ W1 W') ∨ (e = .returned (.bool false) ∧ Jx (pre ++ [x]) W')) := hY
  have HS : Hid (∀ (i : Nat) w, Calls Tryz.prog 42 #[A3 d0 d1 d2, I m, I (axI k), I (i : Int)] w fun x W' => x = .returned (.tuple #[I (onD d0 d1 d2 m k i), I 0]) ∧ Below w.heap.size w W') := fun i w => step_yes w hm hn k
  have HL : Hid (∀ (i : Nat) w, Calls Tryz.prog 88 #[A3 d0 d1 d2, I (axI k), I (onD d0 d1 d2 m k i)] w fun x W' => x = .returned (.tuple #[I (cabW d0 d1 d2 k (onD d0 d1 d2 m k i)), I 0]) ∧ Below w.heap.size w W') := fun i w => link_yes w hm (on_node hm hn k i) rfl h1
  have HSu : Hid (∀ i : Nat, seqW d0 d1 d2 m k (i + 1) = seqW d0 d1 d2 m k i ++ [cabW d0 d1 d2 k (onD d0 d1 d2 m k (i : Int))]) := fun i => seqW_succ d0 d1 d2 m k i
  have HPre : Hid (∀ {i j : Nat}, i ≤ j → seqW d0 d1 d2 m k i <+: seqW d0 d1 d2 m k j) := fun h => seqW_pre d0 d1 d2 m k h
  have HJ : Hid (AbidesFrom W.heap.size J) := hJ
  have HLen : Hid (∀ i, (seqW d0 d1 d2 m k i).length = i) := fun i => seqW_len d0 d1 d2 m k i
  have hS0 : seqW d0 d1 d2 m k 0 = [] := rfl
  generalize hC : (fun i : Nat => cabW d0 d1 d2 k (onD d0 d1 d2 m k (i : Int))) = C at *
  generalize hO : (fun i : Nat => onD d0 d1 d2 m k (i : Int)) = O at *
  have HC : Hid (∀ i : Nat, cabW d0 d1 d2 k (onD d0 d1 d2 m k (i : Int)) = C i) := fun i => congrFun hC i
  have HO : Hid (∀ i : Nat, onD d0 d1 d2 m k (i : Int) = O i) := fun i => congrFun hO i
  have HS2 : Hid (∀ (i : Nat) w, Calls Tryz.prog 42 #[A3 d0 d1 d2, I m, I (axI k), I (i : Int)] w fun x W' => x = .returned (.tuple #[I (O i), I 0]) ∧ Below w.heap.size w W') := fun i w => by rw [← HO.out i]; exact HS.out i w
  have HL2 : Hid (∀ (i : Nat) w, Calls Tryz.prog 88 #[A3 d0 d1 d2, I (axI k), I (O i)] w fun x W' => x = .returned (.tuple #[I (C i), I 0]) ∧ Below w.heap.size w W') := fun i w => by rw [← HO.out i, ← HC.out i]; exact HL.out i w
  have HSu2 : Hid (∀ i : Nat, seqW d0 d1 d2 m k (i + 1) = seqW d0 d1 d2 m k i ++ [C i]) := fun i => by rw [← HC.out i]; exact HSu.out i
  generalize seqW d0 d1 d2 m k = S at *
  have b0 := bd.cell 0
  have b1 := bd.cell 1
  have b2 := bd.cell 2
  have a0 := ba.cell 0
  simp at b0 b1 b2 a0
  have hid : Hid (W.cell? ⟨Bd, (axI k).toNat, none⟩ = some (I (dn : Int))) := by
    rw [← hdn]
    rcases fin3 k with rfl | rfl | rfl
    · exact bd.cell 0
    · exact bd.cell 1
    · exact bd.cell 2
  clear hn hY hJ HS HL HSu hC hO HC HO eo edn hk
  rcases fin3 k with rfl | rfl | rfl
  all_goals
    simp only [axI, dimAt] at *
    subst hdn
    refine callsIn_of_wp Tryz.func87 rfl trivial ?_ rfl
    simp only [Tryz.ntmps87, List.size_toArray, List.length_cons, List.length_nil, Nat.reduceAdd, Nat.reduceSub, Array.replicate_succ, Array.replicate_zero, List.push_toArray, List.append_toArray, List.nil_append, List.cons_append]
    gi_wp2
    gi_loopw [12] (fun i wr => ∃ j : Nat, j ≤ dn ∧ i = .int .i64 j ∧ J (S j) wr ∧ Below n₀ W wr) (fun i _ => dn - (RowKit.intOf i).toNat)
    case atStart => exact ⟨0, by omega, rfl, by rw [hS0]; exact h0, Below.refl _ _⟩
    case round =>
      obtain ⟨j, hj, rfl, hJj, hT⟩ := hrel
      have bd' := bd.below hT hd
      have ba' := ba.below hT ha
      have bm' := bm.below hT hmm
      have c0 := bd'.cell 0
      have c1 := bd'.cell 1
      have c2 := bd'.cell 2
      have c3 := ba'.cell 0
      have c4 := bm'.cell 0
      simp at c0 c1 c2 c3 c4
      by_cases hlt : (j : Int) < (dn : Int)
      · gi_wp2_with fail
        refine ⟨trivial, (callsIn_wide.2 (HS2.out j wr)).mono ?_⟩
        rintro e w1 ⟨rfl, hB1⟩
        have bd1 := bd'.later hB1
        have ba1 := ba'.later hB1
        have bm1 := bm'.later hB1
        have e0 := bd1.cell 0
        have e1 := bd1.cell 1
        have e2 := bd1.cell 2
        have e3 := ba1.cell 0
        simp at e0 e1 e2 e3
        gi_wp2_with fail
        refine ⟨trivial, (callsIn_wide.2 (HL2.out j w1)).mono ?_⟩
        rintro e w2 ⟨rfl, hB2⟩
        have hJ2 : J (S j) w2 := abide_below HJ.out (abide_below HJ.out hJj hB1) hB2
        have hT2 : Below n₀ W w2 := hT.trans ((then_below hB1 hB2).mono (by have := hT.size; omega))
        obtain ⟨f1, t1, as1, bo1, hy1, hR1⟩ := HY.out (S j) (C j) w2 hJ2 (by rw [HLen.out]; omega)
        gi_wp2
        refine hR1.mono ?_
        rintro e W3 (⟨rfl, hJ3, hk3⟩ | ⟨rfl, hJx3⟩)
        · gi_wp2
          go_roundw
          case rel => exact ⟨j + 1, by omega, by go_num, by rw [HSu2.out]; exact hJ3, hT2.trans hk3⟩
          case measure => simp [RowKit.intOf]; omega
        · gi_wp2
          refine bodyPost_ret (results_none rfl _ _ _) rfl ?_
          exact ⟨⟨_, rfl⟩, .inr ⟨_, by rw [← HSu2.out]; exact HPre.out (by omega), hJx3⟩⟩
      · obtain rfl : j = dn := by omega
        gi_wp2
        go_end0
        exact ⟨⟨_, rfl⟩, .inl hJj⟩

set_option maxRecDepth 100000 in
set_option maxHeartbeats 2000000 in
/-- .. along one that has none: no round. -/
theorem line1_no {d0 d1 d2 m : Int} (hm : mayD d0 d1 d2) (hn : 0 ≤ m ∧ m < d0 * d1 * d2) (k : Fin 3) (h1 : ¬ 1 < dimAt d0 d1 d2 k) (n : Nat) (h1n : 1 ≤ n) (l Bd Ba Bm : Nat) (J : List Int → World → Prop) (W : World)
    (bd : Blk W Bd 23 #[I d0, I d1, I d2]) (ba : Blk W Ba 3 #[I (axI k)]) (bm : Blk W Bm 3 #[I m]) (hJ : AbidesFrom W.heap.size J) (h0 : J [] W) :
    CallsIn Fence.wide n Tryz.prog 87 #[.func (.yield l) #[] #[], .pointer (some ⟨Bd, 0, none⟩), .pointer (some ⟨Ba, 0, none⟩), .pointer (some ⟨Bm, 0, none⟩)] W fun e W' =>
      (∃ v, e = .returned v) ∧ J [] W' := by
  have hk := dimAt_ok hm k
  unfold okD at hk
  have hdn : dimAt d0 d1 d2 k = 1 := by omega
  have HJ : Hid (AbidesFrom W.heap.size J) := hJ
  have HS : Hid (∀ w, Calls Tryz.prog 42 #[A3 d0 d1 d2, I m, I (axI k), I 0] w fun x W' => x = .returned (.tuple #[I (onD d0 d1 d2 m k 0), I 0]) ∧ Below w.heap.size w W') := fun w => step_yes w hm hn k
  have HL : Hid (∀ w, Calls Tryz.prog 88 #[A3 d0 d1 d2, I (axI k), I (onD d0 d1 d2 m k 0)] w fun x W' => x = .returned (.tuple #[I 0, I 6]) ∧ Below w.heap.size w W') := fun w => link_none w hm (on_node hm hn k 0) rfl h1
  generalize onD d0 d1 d2 m k 0 = o at *
  have b0 := bd.cell 0
  have b1 := bd.cell 1
  have b2 := bd.cell 2
  have a0 := ba.cell 0
  have m0 := bm.cell 0
  simp at b0 b1 b2 a0 m0
  clear hn hJ h1 hk
  rcases fin3 k with rfl | rfl | rfl
  all_goals
    simp only [axI, dimAt] at *
    subst hdn
    refine callsIn_of_wp Tryz.func87 rfl trivial ?_ rfl
    simp only [Tryz.ntmps87, List.size_toArray, List.length_cons, List.length_nil, Nat.reduceAdd, Nat.reduceSub, Array.replicate_succ, Array.replicate_zero, List.push_toArray, List.append_toArray, List.nil_append, List.cons_append]
    gi_wp2
    gi_loopw [12] (fun i wr => i = .int .i64 0 ∧ wr = W) (fun _ _ => 0)
    case atStart => exact ⟨rfl, by trivial⟩
    case round =>
      obtain ⟨rfl, hw⟩ := hrel
      subst hw
      gi_wp2_with fail
      refine ⟨trivial, (callsIn_wide.2 (HS.out wr)).mono ?_⟩
      rintro e w1 ⟨rfl, hB1⟩
      have bd1 := bd.later hB1
      have ba1 := ba.later hB1
      have e0 := bd1.cell 0
      have e1 := bd1.cell 1
      have e2 := bd1.cell 2
      have e3 := ba1.cell 0
      simp at e0 e1 e2 e3
      gi_wp2_with fail
      refine ⟨trivial, (callsIn_wide.2 (HL.out w1)).mono ?_⟩
      rintro e w2 ⟨rfl, hB2⟩
      have hJ2 : J [] w2 := abide_below HJ.out (abide_below HJ.out h0 hB1) hB2
      gi_wp2
      refine ⟨fun f h => (by cases h), ?_⟩
      gi_wp2
      refine bodyPost_ret (results_none rfl _ _ _) rfl ?_
      exact ⟨⟨_, rfl⟩, hJ2⟩

/-- What wire.line hands back, as a range over it asks. -/
theorem line_stops {d0 d1 d2 m : Int} (hm : mayD d0 d1 d2) (hn : 0 ≤ m ∧ m < d0 * d1 * d2) (k : Fin 3) (n : Nat) (h1n : 1 ≤ n) (Bd Ba Bm n₀ : Nat) (w : World)
    (hd : Bd < n₀) (ha : Ba < n₀) (hmm : Bm < n₀) (hn₀ : n₀ ≤ w.heap.size) (bd : Blk w Bd 23 #[I d0, I d1, I d2]) (ba : Blk w Ba 3 #[I (axI k)]) (bm : Blk w Bm 3 #[I m]) :
    SeqStopsK Fence.wide n Tryz.prog 87 #[.pointer (some ⟨Bd, 0, none⟩), .pointer (some ⟨Ba, 0, none⟩), .pointer (some ⟨Bm, 0, none⟩)] (fun x : Int => #[I x]) (Below n₀) (fun xs => xs = outW d0 d1 d2 m k) (fun pre => pre <+: outW d0 d1 d2 m k) (outW d0 d1 d2 m k).length w := fun l J Jx W hW hJ _ hY h0 => by
  have hB := hW.mono hn₀
  by_cases h1 : 1 < dimAt d0 d1 d2 k
  · exact line1_yes hm hn k h1 n h1n l Bd Ba Bm n₀ J Jx W hd ha hmm (Nat.le_trans hn₀ hW.size) (bd.below hB hd) (ba.below hB ha) (bm.below hB hmm) hJ hY h0
  · refine (line1_no hm hn k h1 n h1n l Bd Ba Bm J W (bd.below hB hd) (ba.below hB ha) (bm.below hB hmm) hJ h0).mono ?_
    rintro e W' ⟨he, hj⟩
    exact ⟨he, .inl ⟨[], by unfold outW; rw [if_neg h1], hj⟩⟩

end Go.Proofs.YtbedhpooeabehaaGreatDoor

/-
  slices.Sort over a list of whole numbers of a call's own, by the library's contract: the same numbers, sorted.
-/
namespace Go.Proofs.YtbedhpooeabehaaGreatDoor
open Go Go.RowKit Go.Shelf Go.Sort Go.Lib

shelf_lay Lays.n189 Nm 189 at Tryz as sortI

/-- 'slices.Sort(list)'. -/
theorem sort_calls {base : Nat} {v : Value} {xs : List Int} (w : World) (hL : Lst w base v xs) (hv : v ≠ .slice none 0 0) (hn : xs.length ≤ 100000) :
    Calls Tryz.prog 86 #[v] w fun e W' => e = .returned (.tuple #[]) ∧ Lst W' base v (xs.mergeSort fun x y => decide (x ≤ y)) ∧ Below base w W' ∧ w.grownBy W' v.ownBlock := by
  obtain ⟨h1, h2⟩ := hL
  rcases h2 with ⟨h0, _⟩ | ⟨g, cap, cur, rfl, hg, hh, hc, hc2, hs, ht⟩
  · exact absurd h0 hv
  · have ht' : cur.toList.take xs.length = xs.map (Value.int .i64) := by simpa using ht
    have hcon := Any.slices_Sort_int sortI g 0 cap xs w (holds_of_blockI hh ht') (Array.getElem?_eq_some_iff.1 hh).1 (by omega)
    change Calls Tryz.prog 86 _ _ _ at hcon
    refine hcon.mono ?_
    rintro e W' ⟨rfl, n, os, rfl⟩
    have hl : (xs.mergeSort fun x y => decide (x ≤ y)).length = xs.length := List.length_mergeSort _
    refine ⟨rfl, ?_, ?_, grownBy_sortedI _⟩
    · have := ownsRow_sortedI (n := n) (os := os) (ts := xs.mergeSort fun x y => decide (x ≤ y)) hl hg hh hc hc2 hs
      unfold Lst
      rw [hl]
      exact this
    · exact (Below.refl base w).grown (grownBy_sortedI _) (Nat.le_trans hg (Nat.le_of_lt (Array.getElem?_eq_some_iff.1 hh).1)) (fun k hk => by cases hk; exact hg)

end Go.Proofs.YtbedhpooeabehaaGreatDoor

/-
  wire.rising: the first cables that are handed out, at most so many, in rising order, in new memory.
-/
namespace Go.Proofs.YtbedhpooeabehaaGreatDoor
open Go Go.RowKit Go.Shelf

attribute [local go_sem] Oper.semAt_some ext_const

/-- 'list = append(list, y)' within a fence, the list a call's own and not nil. -/
theorem wpListIn_app {F : Fence} {n : Nat} {ops : Array Oper} {rest : List Oper} {o : Oper} {a : Act} {Q : Exit → Act → World → Prop} {W : World} {base : Nat} {v : Value} {xs : List Int} {y : Int} (hgd : o.guard = none) (s x : Operand)
    (ho : o.op = .call { callee := .builtin .append, args := #[s, x], argTypes := #[57, 57] }) (hs : a.eval s = v) (hx : a.eval x = .slice (some ⟨W.heap.size, 0, none⟩) 1 1)
    (hown : Lst W base v xs) (hl : xs.length ≤ 100000) (hb : base ≤ W.heap.size)
    (h : ∀ g cap w', Lst w' base (.slice (some ⟨g, 0, none⟩) (xs.length + 1) cap) (xs ++ [y]) → Below base W w' → W.grownBy w' v.ownBlock → wpListIn F n Tryz.prog ops Q rest (a.put o.dst (.slice (some ⟨g, 0, none⟩) (xs.length + 1) cap)) w') : wpListIn F n Tryz.prog ops Q (o :: rest) a (W.alloc (.cells #[.int .i64 y] 3)) := by
  obtain ⟨i0, hi, hz0, hz1, hz2⟩ := info_parts info_int
  refine wpListIn_append_own (w := W.alloc (.cells #[.int .i64 y] 3)) hgd s x 57 ho base 3 i0 (.int .i64 0) 1 8 Tryz.underlying57 hi hz0 hz1 hz2 rfl (by decide) v xs.length _ hs (hown.alloc _) ⟨W.heap.size, 0, none⟩ 1 1 [.int .i64 y] hx rfl ?_ ?_ ?_ ?_ ?_ ?_
  · intro j u hj
    match j, hj with
    | 0, hj => simp at hj; subst hj; simp [Addr.add]
  · intro u hu; simp at hu; subst hu; rfl
  · unfold maxLen; omega
  · omega
  · simp; omega
  · intro v' w1 hown' hgrow hnil
    have hne : v' ≠ .slice none 0 0 := fun e => by have := (hnil.1 e).2; omega
    have hL' : Lst w1 base v' (xs ++ [y]) := by
      unfold Lst
      rw [List.map_append, List.length_append]
      exact hown'
    have hlen : (xs ++ [y]).length = xs.length + 1 := by simp
    rcases hL'.2 with ⟨h0, _⟩ | ⟨g, cap, cur, rfl, _⟩
    · exact absurd h0 hne
    · rw [hlen] at hL' ⊢
      refine h g cap w1 hL' ?_ ?_
      · exact ((Below.refl base W).alloc hb _).grown hgrow (by simp; omega) (fun k hk => (hown.lt k hk).1)
      · exact ⟨hgrow.os, hgrow.tape, hgrow.output, by have := hgrow.size; simp at this; omega, fun k hk hne => (hgrow.block k (by simp; omega) hne).trans (Below.heap_alloc W _ k hk)⟩

/-- 'make([]int, 0, n)' within a fence. -/
theorem wpListIn_mk {F : Fence} {m : Nat} {ops : Array Oper} {rest : List Oper} {o : Oper} {a : Act} {Q : Exit → Act → World → Prop} {W : World} {base : Nat} (hgd : o.guard = none) (l c : Operand) (ho : o.op = Op.makeSlice 57 l c) (n : Int)
    (hl : a.eval l = .int .i64 0) (hc : a.eval c = .int .i64 n) (h0 : 0 ≤ n) (h1 : n ≤ 100000) (hb : base ≤ W.heap.size)
    (h : ∀ cap w', Lst w' base (.slice (some ⟨W.heap.size, 0, none⟩) 0 cap) [] → Below W.heap.size W w' → wpListIn F m Tryz.prog ops Q rest (a.put o.dst (.slice (some ⟨W.heap.size, 0, none⟩) 0 cap)) w') : wpListIn F m Tryz.prog ops Q (o :: rest) a W := by
  obtain ⟨i0, hi, hz0, hz1, hz2⟩ := info_parts info_int
  refine wpListIn_make_own W hgd l c 57 ho base 3 i0 (.int .i64 0) 1 Tryz.underlying57 hi hz0 hz1 .i64 .i64 n n.toNat hl hc (by omega) (by rw [hz2]; omega) (by unfold maxLen; omega) hb ?_
  intro w' h1 h2
  exact h _ w' h1 ((Below.refl _ W).grown h2 (Nat.le_refl _) (fun k hk => by cases hk))

/-- A list stays where only other blocks turn. -/
theorem Lst.kept {W W' : World} {base : Nat} {v : Value} {xs : List Int} {row : Option Nat} (h : Lst W base v xs) (hg : W.grownBy W' row) (hr : ∀ r, row = some r → ∃ o : Obj, W.heap[r]? = some o ∧ o.isCells = false) : Lst W' base v xs := by
  obtain ⟨h1, h2⟩ := h
  refine ⟨h1, ?_⟩
  rcases h2 with h2 | ⟨g, cap, cur, e, hgb, hh, r⟩
  · exact .inl h2
  · exact .inr ⟨g, cap, cur, e, hgb, (grownBy_keeps_cells hg hr hh rfl).trans hh, r⟩
/-- .. or a cell of another type's block. -/
theorem Lst.ne {W : World} {base B g n cap : Nat} {t : TypeId} {vs : Array Value} {xs : List Int} (h : Lst W base (.slice (some ⟨g, 0, none⟩) n cap) xs) (hB : Blk W B t vs) (ht : t ≠ 3) : g ≠ B := by
  intro e
  subst e
  rcases h.2 with ⟨h0, _⟩ | ⟨g', cap', cur, e, _, hh, _⟩
  · cases h0
  · cases e
    rw [show W.heap[g]? = _ from hB] at hh
    cases hh
    exact ht rfl
theorem Lst.lt {W : World} {base g n cap : Nat} {xs : List Int} (h : Lst W base (.slice (some ⟨g, 0, none⟩) n cap) xs) : g < W.heap.size ∧ ∃ cur, W.heap[g]? = some (.cells cur 3 (0, 0)) := by
  rcases h.2 with ⟨h0, _⟩ | ⟨g', cap', cur, e, _, hh, _⟩
  · cases h0
  · cases e
    exact ⟨(Array.getElem?_eq_some_iff.1 hh).1, cur, hh⟩
theorem Lst.set {W : World} {base B g n cap : Nat} {xs : List Int} (h : Lst W base (.slice (some ⟨g, 0, none⟩) n cap) xs) (hne : g ≠ B) (i : Nat) (u : Value) : Lst (W.setCell ⟨B, i, none⟩ u) base (.slice (some ⟨g, 0, none⟩) n cap) xs := by
  obtain ⟨h1, h2⟩ := h
  refine ⟨h1, ?_⟩
  rcases h2 with h2 | ⟨g', cap', cur, e, hgb, hh, r⟩
  · exact .inl h2
  · cases e
    exact .inr ⟨g, cap, cur, rfl, hgb, (Below.heap_setCell W ⟨B, i, none⟩ u g hne).trans hh, r⟩
/-- What a step that turns a list's own row leaves. -/
theorem Blk.grown {W W' : World} {B g : Nat} {t : TypeId} {vs : Array Value} (h : Blk W B t vs) (hg : W.grownBy W' (some g)) (hne : g ≠ B) : Blk W' B t vs :=
  (hg.block B h.lt (fun e => hne (by cases e; rfl))).trans h
theorem keeps_grown {W W' : World} {base g n cap : Nat} {xs : List Int} (h : Lst W base (.slice (some ⟨g, 0, none⟩) n cap) xs) (hg : W.grownBy W' (some g)) : KeepsOthers W W' :=
  ⟨hg.size, fun k o hk ho => by
    obtain ⟨_, cur, hh⟩ := h.lt
    refine (hg.block k (Array.getElem?_eq_some_iff.1 hk).1 (fun e => ?_)).trans hk
    cases e
    rw [hh] at hk
    cases hk
    cases ho⟩

/-- What the loop keeps. -/
structure Gath (w : World) (mo Bl : Nat) (pre : List Int) (W : World) : Prop where
  row : ∃ g cap, Blk W Bl 57 #[.slice (some ⟨g, 0, none⟩) pre.length cap] ∧ Lst W (w.heap.size + 1) (.slice (some ⟨g, 0, none⟩) pre.length cap) pre
  most : Blk W w.heap.size 3 #[I mo]
  below : Below w.heap.size w W
  le : pre.length ≤ mo
theorem gath_own (w : World) (mo Bl B : Nat) (hB : w.heap.size ≤ B) : OwnFrom B (Gath w mo Bl) := fun s A A' row hs hg hr => by
  obtain ⟨⟨g, cap, hb, hl⟩, hm, hbe, hle⟩ := hs
  have hr' : ∀ r, row = some r → ∃ o : Obj, A.heap[r]? = some o ∧ o.isCells = false := fun r e => (hr r e).2
  exact ⟨⟨g, cap, hb.kept hg hr', hl.kept hg hr'⟩, hm.kept hg hr', hbe.grown hg hbe.size (fun k e => Nat.le_trans hB (hr k e).1), hle⟩
/-- .. where it is left ahead of its end. -/
def GathX (w : World) (mo Bl : Nat) (c : Code) (pre : List Int) (W : World) : Prop := c = .exit 0 ∧ ∃ ini x, pre = ini ++ [x] ∧ ini.length = mo ∧ Gath w mo Bl ini W
theorem gathX_own (w : World) (mo Bl B : Nat) (hB : w.heap.size ≤ B) (c : Code) : OwnFrom B (GathX w mo Bl c) := fun s A A' row hs hg hr => by
  obtain ⟨hc, ini, x, he, hl, hG⟩ := hs
  exact ⟨hc, ini, x, he, hl, gath_own w mo Bl B hB ini A A' row hG hg hr⟩

set_option maxRecDepth 100000 in
set_option maxHeartbeats 2000000 in
theorem rising_calls {d0 d1 d2 m : Int} (hm : mayD d0 d1 d2) (hn : 0 ≤ m ∧ m < d0 * d1 * d2) (k : Fin 3) (mo : Nat) (hmo : mo ≤ 16) (Bd Ba Bm : Nat) (w : World)
    (hd : Bd < w.heap.size) (ha : Ba < w.heap.size) (hmm : Bm < w.heap.size) (bd : Blk w Bd 23 #[I d0, I d1, I d2]) (ba : Blk w Ba 3 #[I (axI k)]) (bm : Blk w Bm 3 #[I m]) :
    Calls Tryz.prog 82 #[.func (.func 87) #[] #[.pointer (some ⟨Bd, 0, none⟩), .pointer (some ⟨Ba, 0, none⟩), .pointer (some ⟨Bm, 0, none⟩)], I mo] w fun e W' =>
      ∃ v, e = .returned v ∧ Lst W' w.heap.size v (((outW d0 d1 d2 m k).take mo).mergeSort fun x y => decide (x ≤ y)) ∧ Below w.heap.size w W' := by
  refine (callsIn_wide (n := 3)).1 ?_
  refine callsIn_of_wp_marks Tryz.func82 rfl trivial ?_ rfl
  simp only [Tryz.ntmps82, List.size_toArray, List.length_cons, List.length_nil, Nat.reduceAdd, Nat.reduceSub, Array.replicate_succ, Array.replicate_zero, List.push_toArray, List.append_toArray, List.nil_append, List.cons_append]
  gi_wp2_with (gi_at_make; refine wpListIn_mk (base := (w.alloc (.cells #[I mo] 3)).heap.size) rfl _ _ rfl (mo : Int) rfl rfl (by omega) (by omega) (Nat.le_refl _) ?_; intro cap1 w1 hL1 hT1)
  have hz : w.heap.size + 1 < w1.heap.size := by have := hL1.lt.1; simpa using this
  have hB1 : Below w.heap.size w w1 := then_below ((Below.refl _ w).alloc (Nat.le_refl _) _) hT1
  have bq : Blk w1 w.heap.size 3 #[I mo] := (Blk.new w 3 #[I mo]).later hT1
  have bl := Blk.new w1 57 #[.slice (some ⟨w.heap.size + 1, 0, none⟩) 0 cap1]
  have hG0 : Gath w mo w1.heap.size [] (w1.alloc (.cells #[.slice (some ⟨w.heap.size + 1, 0, none⟩) 0 cap1] 57)) :=
    ⟨⟨w.heap.size + 1, cap1, bl, by have := hL1.alloc (.cells #[.slice (some ⟨w.heap.size + 1, 0, none⟩) 0 cap1] 57); simp at this; exact this⟩, bq.alloc _, then_alloc hB1 _, Nat.zero_le _⟩
  have hBW := hG0.below
  generalize w1.heap.size = Bl at *
  have hBl : Bl < (w1.alloc (.cells #[.slice (some ⟨w.heap.size + 1, 0, none⟩) 0 cap1] 57)).heap.size := bl.lt
  generalize w1.alloc (.cells #[.slice (some ⟨w.heap.size + 1, 0, none⟩) 0 cap1] 57) = W0 at *
  clear hT1 hL1 hB1 bq bl
  refine wpIn_rangeFunc_ownF rfl (by omega) (gf := 87) (lb := #[.pointer (some ⟨Bd, 0, none⟩), .pointer (some ⟨Ba, 0, none⟩), .pointer (some ⟨Bm, 0, none⟩)]) rfl trivial (enters_of Tryz.func87 (by kernel_rfl) rfl)
    (line_stops hm hn k (3 - 1) (by omega) Bd Ba Bm w.heap.size W0 hd ha hmm hBW.size (bd.below hBW hd) (ba.below hBW ha) (bm.below hBW hmm)) belowK_t (belowK_b hBW.size) (Below.refl _ _) (fun _ => rfl)
    (Gath w mo Bl) (GathX w mo Bl) (gath_own w mo Bl _ hBW.size) (gathX_own w mo Bl _ hBW.size) hG0
    (fun x => { tmps := #[.func (.func 87) #[] #[.pointer (some ⟨Bd, 0, none⟩), .pointer (some ⟨Ba, 0, none⟩), .pointer (some ⟨Bm, 0, none⟩)], I mo, undef, .pointer (some ⟨w.heap.size, 0, none⟩), .slice none 0 0, .pointer (some ⟨Bl, 0, none⟩), I x, I mo, .slice (some ⟨w.heap.size + 1, 0, none⟩) 0 cap1, .func (.func 87) #[] #[.pointer (some ⟨Bd, 0, none⟩), .pointer (some ⟨Ba, 0, none⟩), .pointer (some ⟨Bm, 0, none⟩)], I x, undef, undef, undef, undef, undef, undef, undef, undef, undef, undef, undef], defers := [] }) ?assign ?body ?done ?stop
  case assign =>
    intro l x W K hK
    gi_wp2
    exact hK
  case body =>
    rintro l pre x W ⟨⟨g, cap, hbl, hL⟩, hq, hB, hle⟩ _
    have c0 := hbl.cell 0
    have f0 := hbl.frozen 0
    have c1 := hq.cell 0
    simp at c0 c1
    have hne := hL.ne hbl (by decide)
    by_cases he : pre.length = mo
    · have HE : Hid (pre.length = mo) := he
      have ht : ((pre.length : Int) == (mo : Int)) = true := by simp [he]
      clear he
      gi_wp2
      exact ⟨KeepsOthers.refl _, rfl, pre, x, rfl, HE.out, ⟨⟨g, cap, hbl, hL⟩, hq, hB, hle⟩⟩
    · have HE : Hid (pre.length ≠ mo) := he
      have ht : ((pre.length : Int) == (mo : Int)) = false := by simp; omega
      clear he
      gi_wp2_with (gi_at_builtin; refine wpListIn_app rfl _ _ rfl rfl rfl hL (by omega) (Nat.succ_le_of_lt hq.lt) ?_; intro g2 cap2 w2 hL2 hB2 hg2; have hbl2 := hbl.grown hg2 hne; have c2 := hbl2.cell 0; have f2 := hbl2.frozen 0; simp at c2)
      have hg2' : W.grownBy w2 (some g) := hg2
      have hne2 := hL2.ne hbl2 (by decide)
      have e1 : (pre ++ [x]).length = pre.length + 1 := by simp
      have hlt : pre.length < mo := by have := HE.out; omega
      refine ⟨(keeps_grown hL hg2').trans (KeepsOthers.setCell _ _ _), (hB2.mono (by omega)).setCell (p := ⟨Bl, 0, none⟩) (by show _ ≤ Bl; omega) _, ⟨⟨g2, cap2, ?_, ?_⟩, ?_, ?_, by omega⟩⟩
      · rw [e1]; exact hbl2.set 0 _
      · rw [e1]; exact hL2.set hne2 0 _
      · exact (hq.below hB2 (by omega)).other 0 _ (by omega)
      · exact (hB.trans (hB2.mono (by omega))).setCell (p := ⟨Bl, 0, none⟩) (by show _ ≤ Bl; omega) _
  case done =>
    rintro D xs W hD hxs ⟨⟨g, cap, hbl, hL⟩, hq, hB, hle⟩ hK
    have hD' : w.heap.size ≤ D := Nat.le_trans hBW.size hD
    have HT : Hid (xs = (outW d0 d1 d2 m k).take mo) := by show _ = _; rw [← hxs, List.take_of_length_le hle]
    clear hxs
    have hbl' := hbl.cell 0
    simp at hbl'
    have hne := hL.ne hbl (by decide)
    gi_wp2_with fail
    refine ⟨trivial, (callsIn_wide.2 (sort_calls W hL (by intro e; cases e) (by omega))).mono ?_⟩
    rintro e w2 ⟨rfl, hL2, hB2, hg2⟩
    have hg2' : W.grownBy w2 (some g) := hg2
    have hbl2 := (hbl.grown hg2' hne).cell 0
    simp at hbl2
    have hK2 := (keeps_grown hL hg2').same D _ hK rfl
    have hBe : Below w.heap.size w w2 := hB.trans (hB2.mono (by omega))
    gi_wp2
    refine ⟨by simp, .inl ⟨_, _, rfl, run_takeDeferred hK2, ?_⟩⟩
    have hr' : ∀ r, some D = some r → ∃ o : Obj, w2.heap[r]? = some o ∧ o.isCells = false := fun r e => by cases e; exact ⟨_, hK2, rfl⟩
    refine ⟨_, results_tmp rfl _ _ _, _, rfl, ?_, below_put _ hBe (by omega) hK2⟩
    rw [← HT.out]
    exact (hL2.kept (grownBy_putObj' w2 D _) hr').weak (by omega)
  case stop =>
    rintro D c pre W hD hpre ⟨rfl, ini, x, hpe, hin, ⟨⟨g, cap, hbl, hL⟩, hq, hB, hle⟩⟩ hK
    have hD' : w.heap.size ≤ D := Nat.le_trans hBW.size hD
    have HT : Hid (ini = (outW d0 d1 d2 m k).take mo) := by
      have h1 : ini <+: outW d0 d1 d2 m k := (List.prefix_append ini [x]).trans (hpe ▸ hpre)
      have h2 := List.prefix_iff_eq_take.1 h1
      show _ = _
      rw [hin] at h2
      exact h2
    clear hpre hpe hin
    have hbl' := hbl.cell 0
    simp at hbl'
    have hne := hL.ne hbl (by decide)
    gi_wp2_with fail
    refine ⟨trivial, (callsIn_wide.2 (sort_calls W hL (by intro e; cases e) (by omega))).mono ?_⟩
    rintro e w2 ⟨rfl, hL2, hB2, hg2⟩
    have hg2' : W.grownBy w2 (some g) := hg2
    have hbl2 := (hbl.grown hg2' hne).cell 0
    simp at hbl2
    have hK2 := (keeps_grown hL hg2').same D _ hK rfl
    have hBe : Below w.heap.size w w2 := hB.trans (hB2.mono (by omega))
    gi_wp2
    refine ⟨by simp, .inl ⟨_, _, rfl, run_takeDeferred hK2, ?_⟩⟩
    have hr' : ∀ r, some D = some r → ∃ o : Obj, w2.heap[r]? = some o ∧ o.isCells = false := fun r e => by cases e; exact ⟨_, hK2, rfl⟩
    refine ⟨_, results_tmp rfl _ _ _, _, rfl, ?_, below_put _ hBe (by omega) hK2⟩
    rw [← HT.out]
    exact (hL2.kept (grownBy_putObj' w2 D _) hr').weak (by omega)

end Go.Proofs.YtbedhpooeabehaaGreatDoor

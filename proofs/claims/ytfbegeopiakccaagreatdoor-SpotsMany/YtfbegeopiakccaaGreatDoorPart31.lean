/-
  The statement SpotsMany, walked.
-/
import Derived.Test.YtfbegeopiakccaaGreatDoorPart30
import Derived.Test.YtfbegeopiakccaaGreatDoorPart1
import Derived.Test.YtfbegeopiakccaaGreatDoorRows
import Derived.ProofKit
import Derived.OpenShut
import Derived.ChangeOld
import Derived.Below
import Derived.Laws.IdiomArrays
import Derived.Test.YtfbegeopiakccaaGreatDoorPart16
import Derived.ChangeSame
import Derived.ChangeArms
import Derived.Deep.Strs
import Derived.Test.YtfbegeopiakccaaGreatDoorPart26
import Derived.LaidMore
import Derived.Stop.Joined
import Derived.Lib.LaidTab
import Derived.SevenTiedAt
namespace Go.Proofs.YtfbegeopiakccaaGreatDoor
open Go Go.RowKit Go.Shelf Go.Maps

attribute [local go_sem] Oper.semAt_some ext_const ixI0 ixI1 ixI2

/-- What the operations of All's statement leave, two sets made for it. -/
def wordAl (d0 d1 d2 : Int) (u : Value) (a b : Nat) (L : List Pl) (i : Nat) (v : Value) (w : World) : Prop :=
  match i with
  | 0 => v = A3 d0 d1 d2
  | 1 => v = u
  | 2 => v = I a
  | 3 => Wds w v (List.replicate a 0)
  | 4 => v = I b
  | 5 => Wds w v (List.replicate b 0)
  | 6 => ∃ x, v = .tuple #[x, I 0] ∧ Lp w 0 x L
  | 7 => ∃ x, v = .tuple #[x, I 0] ∧ Lp w 0 x L
  | 8 => Lp w 0 v L
  | 9 => v = I 0
  | 10 => Lp w 0 v L
  | 11 => v = I 0
  | _ => False
theorem wordAl_later {d0 d1 d2 : Int} {u : Value} {a b : Nat} {L : List Pl} (i : Nat) (v : Value) (w w' : World) (h : wordAl d0 d1 d2 u a b L i v w) (hB : Below w.heap.size w w') : wordAl d0 d1 d2 u a b L i v w' := by
  match i, h with
  | 0, h => exact h
  | 1, h => exact h
  | 2, h => exact h
  | 3, h => exact Wds.later h hB
  | 4, h => exact h
  | 5, h => exact Wds.later h hB
  | 6, h => obtain ⟨x, e, k⟩ := h; exact ⟨x, e, Lp.later k hB⟩
  | 7, h => obtain ⟨x, e, k⟩ := h; exact ⟨x, e, Lp.later k hB⟩
  | 8, h => exact Lp.later h hB
  | 9, h => exact h
  | 10, h => exact Lp.later h hB
  | 11, h => exact h
  | n + 12, h => exact h.elim

/-- .. one set handed in, one made for it. -/
def wordAm (d0 d1 d2 : Int) (u sv : Value) (b : Nat) (L : List Pl) (i : Nat) (v : Value) (w : World) : Prop :=
  match i with
  | 0 => v = A3 d0 d1 d2
  | 1 => v = u
  | 2 => v = sv
  | 3 => v = I b
  | 4 => Wds w v (List.replicate b 0)
  | 5 => ∃ x, v = .tuple #[x, I 0] ∧ Lp w 0 x L
  | 6 => ∃ x, v = .tuple #[x, I 0] ∧ Lp w 0 x L
  | 7 => Lp w 0 v L
  | 8 => v = I 0
  | 9 => Lp w 0 v L
  | 10 => v = I 0
  | _ => False
theorem wordAm_later {d0 d1 d2 : Int} {u sv : Value} {b : Nat} {L : List Pl} (i : Nat) (v : Value) (w w' : World) (h : wordAm d0 d1 d2 u sv b L i v w) (hB : Below w.heap.size w w') : wordAm d0 d1 d2 u sv b L i v w' := by
  match i, h with
  | 0, h => exact h
  | 1, h => exact h
  | 2, h => exact h
  | 3, h => exact h
  | 4, h => exact Wds.later h hB
  | 5, h => obtain ⟨x, e, k⟩ := h; exact ⟨x, e, Lp.later k hB⟩
  | 6, h => obtain ⟨x, e, k⟩ := h; exact ⟨x, e, Lp.later k hB⟩
  | 7, h => exact Lp.later h hB
  | 8, h => exact h
  | 9, h => exact Lp.later h hB
  | 10, h => exact h
  | n + 11, h => exact h.elim

theorem upTo_lt (ws : Nat) : ∀ k, ∀ x ∈ upTo ws k, x < 18446744073709551616
  | 0, x, hx => by rw [upTo, List.range_zero, List.foldl_nil] at hx; rw [(List.mem_replicate.1 hx).2]; decide
  | k + 1, x, hx => by rw [upTo_succ] at hx; exact putW_lt (upTo_lt ws k) k x hx
theorem mk_run (W : World) (n : Nat) (h1 : n ≤ 1000) : (Instr.makeSlice 35 (.int .i64 n) (.int .i64 n)).run Tryz.prog W = .ok (.slice (some ⟨W.heap.size, 0, none⟩) n n) (W.alloc (.cells ((List.replicate n 0).map U).toArray 33)) := by
  obtain ⟨i0, hi, hz0, hz1, hz2⟩ := info_parts info_u64
  have hrun := run_make (P := Tryz.prog) W 35 33 i0 (.int .u64 0) Tryz.underlying35 hi hz0 .i64 .i64 n n (by omega) (by omega) (by rw [hz2]; omega) (by omega)
  rw [hz1, Nat.mul_one] at hrun
  simp only [Int.toNat_natCast] at hrun
  rw [show (Value.int .u64 0).cells = #[.int .u64 0] from rfl, made_zero] at hrun
  exact hrun
theorem wds_made (W : World) (n : Nat) : Wds (W.alloc (.cells ((List.replicate n 0).map U).toArray 33)) (.slice (some ⟨W.heap.size, 0, none⟩) n n) (List.replicate n 0) := by
  have := wds_of_blk (ws := List.replicate n 0) (fun y hy => by rw [(List.mem_replicate.1 hy).2]; decide) (Blk.new W 33 _) n
  rwa [List.length_replicate] at this

set_option maxRecDepth 100000 in
set_option maxHeartbeats 16000000 in
theorem spotsMany_walk (d0 d1 d2 x y z : Int) (f g h t : Bool) (w : World) (hO : OrdOk w) :
    Calls Tryz.prog 6 #[A3 d0 d1 d2, V7 x y z f g h t] w fun e W' => e = .returned (.bool true) ∧ Below w.heap.size w W' := by
  have mixed : Tryz.prog.follows .mixedOrders = true := by kernel_rfl
  have HO : Hid (OrdOk w) := hO
  have HA : Hid (∀ w1, OrdOk w1 → Calls Tryz.prog 11 #[] w1 fun e W' => e = .returned (.bool true) ∧ Below w1.heap.size w1 W') := fun w1 h => alive12_calls w1 h
  have HS : Hid (∀ w1, Calls Tryz.prog 13 #[A3 d0 d1 d2] w1 fun e W' => e = .returned (.bool (smB d0 d1 d2)) ∧ Below w1.heap.size w1 W') := fun w1 => small12_calls d0 d1 d2 w1
  obtain ⟨W, hW, hB0, k0, k1⟩ := two_start w #[I d0, I d1, I d2] #[I x, I y, I z, .bool f, .bool g, .bool h, .bool t] 27 31
  have HW : Hid ((w.alloc (.cells #[I d0, I d1, I d2] 27)).alloc (.cells #[I x, I y, I z, .bool f, .bool g, .bool h, .bool t] 31) = W) := hW
  clear hW hO
  by_cases hq : ¬ (mayD d0 d1 d2 ∧ mayT (x, y, z, f, g, h, t))
  · have HM : Hid (∀ w1, Calls Tryz.prog 17 #[A3 d0 d1 d2, V7 x y z f g h t] w1 fun e W' => e = .returned (.tuple #[I 0, I 8]) ∧ Below w1.heap.size w1 W') := fun w1 => smany_no (u := (x, y, z, f, g, h, t)) w1 hq
    clear hq
    go_enter Tryz.func6, Tryz.ntmps6
    go_wp2_with fail
    rw [HW.out]
    refine (HA.out _ (HO.out.later hB0)).mono ?_
    rintro e w1 ⟨rfl, hB⟩
    have hT := then_below hB0 hB
    replace k0 := k0.later hB
    replace k1 := k1.later hB
    obtain ⟨a0, a1, a2, az⟩ := k0.three (Below.refl _ _)
    obtain ⟨s0, s1, s2, s3, s4, s5, s6⟩ := k1.seven
    have sz := k1.lt
    go_wp2_with fail
    refine (HM.out _).mono ?_
    rintro e w2 ⟨rfl, hB2⟩
    have hT2 := then_below hT hB2
    clear a0 a1 a2 az s0 s1 s2 s3 s4 s5 s6 sz
    go_wp2
    go_ret
    exact ⟨rfl, hT2⟩
  obtain ⟨hd, hu⟩ := Classical.not_not.1 hq
  have HM : Hid (∀ w1, OrdOk w1 → Calls Tryz.prog 17 #[A3 d0 d1 d2, V7 x y z f g h t] w1 fun e W' => e = .returned (.tuple #[I (placesL d0 d1 d2 (x, y, z, f, g, h, t)).length, I 0]) ∧ Below w1.heap.size w1 W') := fun w1 h1 => smany_yes (u := (x, y, z, f, g, h, t)) w1 h1 hd hu
  have hsm := smB_yes hd
  clear hq
  have HD : Hid (mayD d0 d1 d2 ∧ mayT (x, y, z, f, g, h, t)) := ⟨hd, hu⟩
  go_enter Tryz.func6, Tryz.ntmps6
  go_wp2_with fail
  rw [HW.out]
  refine (HA.out _ (HO.out.later hB0)).mono ?_
  rintro e w1 ⟨rfl, hB⟩
  have hT := then_below hB0 hB
  replace k0 := k0.later hB
  replace k1 := k1.later hB
  clear hB HW hB0
  obtain ⟨a0, a1, a2, az⟩ := k0.three (Below.refl _ _)
  obtain ⟨s0, s1, s2, s3, s4, s5, s6⟩ := k1.seven
  have sz := k1.lt
  go_wp2_with fail
  refine (HM.out _ (HO.out.later hT)).mono ?_
  rintro e w2 ⟨rfl, hB⟩
  replace hT := then_below hT hB
  replace k0 := k0.later hB
  replace k1 := k1.later hB
  clear hB a0 a1 a2 az s0 s1 s2 s3 s4 s5 s6 sz W
  obtain ⟨a0, a1, a2, az⟩ := k0.three (Below.refl _ _)
  go_wp2_with fail
  refine (HS.out _).mono ?_
  rintro e w3 ⟨rfl, hB⟩
  replace hT := then_below hT hB
  replace k0 := k0.later hB
  replace k1 := k1.later hB
  clear hB a0 a1 a2 az
  cases hsb : smB d0 d1 d2
  · go_wp2
    go_ret
    exact ⟨rfl, hT⟩
  rw [hsb] at hsm
  have hN64 : d0 * d1 * d2 ≤ 64 := of_decide_eq_true hsm.symm
  clear hsb hsm
  have hNb := N_bd hd
  obtain ⟨⟨l0, m0⟩, ⟨l1, m1⟩, l2, m2⟩ := hd
  have b1 : 1 ≤ d0 * d1 ∧ d0 * d1 ≤ 256 := by
    have q1 := Int.mul_le_mul (show d0 ≤ 16 by omega) (show d1 ≤ 16 by omega) (by omega) (by omega)
    have q2 := Int.mul_le_mul (show 1 ≤ d0 by omega) (show 1 ≤ d1 by omega) (by omega) (by omega)
    omega
  obtain ⟨N, hN⟩ : ∃ N : Nat, d0 * d1 * d2 = (N : Int) := ⟨(d0 * d1 * d2).toNat, by omega⟩
  have c1 : 3 * d0 * d1 = 3 * (d0 * d1) := Int.mul_assoc _ _ _
  have c2 : 3 * (d0 * d1) * d2 = 3 * (N : Int) := by rw [Int.mul_assoc 3 (d0 * d1) d2, hN]
  obtain ⟨a0, a1, a2, az⟩ := k0.three (Below.refl _ _)
  have hN1 : 1 ≤ N ∧ N ≤ 64 := by omega
  have n1 : ((N : Int) + 63) / 64 = ((1 : Nat) : Int) := by omega
  obtain ⟨cb, hcb⟩ : ∃ cb : Nat, (3 * (N : Int) + 63) / 64 = (cb : Int) := ⟨((3 * (N : Int) + 63) / 64).toNat, by omega⟩
  have HCb : Hid (cb = (3 * N + 63) / 64 ∧ cb ≤ 4) := ⟨by omega, by omega⟩
  have HAz : Hid (∀ (w1 : World) (u v : Value), Below w.heap.size w w1 → Wds w1 u (List.replicate 1 0) → Wds w1 v (List.replicate cb 0) → Calls Tryz.prog 8 #[A3 d0 d1 d2, V7 x y z f g h t, u, v] w1 fun e W' => ∃ s, e = .returned (.tuple #[s, I 0]) ∧ Lp W' w1.heap.size s (clearT d0 d1 d2 (turnsT (x, y, z, f, g, h, t)) (List.replicate 1 0) (List.replicate cb 0)) ∧ Below w1.heap.size w1 W') := fun w1 u v hb h1 h2 =>
    sall_yes (u := (x, y, z, f, g, h, t)) w1 (HO.out.later hb) HD.out.1 HD.out.2 h1 h2 (by
      unfold mayW
      rw [hN, Int.toNat_natCast, may_none (n := N) 1 (by omega), may_none (n := 3 * N) cb HCb.out.1]
      rfl)
  have HLen : Hid ((clearT d0 d1 d2 (turnsT (x, y, z, f, g, h, t)) (List.replicate 1 0) (List.replicate cb 0)).length = (placesL d0 d1 d2 (x, y, z, f, g, h, t)).length) := all_many HD.out.1 HD.out.2 1 cb
  generalize clearT d0 d1 d2 (turnsT (x, y, z, f, g, h, t)) (List.replicate 1 0) (List.replicate cb 0) = ZL at *
  have HNone : Hid (∀ (w1 : World) (u v : Value), Below w.heap.size w w1 → Wds w1 u (upTo 1 N) → Wds w1 v (List.replicate cb 0) → Calls Tryz.prog 8 #[A3 d0 d1 d2, V7 x y z f g h t, u, v] w1 fun e W' => ∃ s, e = .returned (.tuple #[s, I 0]) ∧ Lp W' 0 s [] ∧ Below w1.heap.size w1 W') := fun w1 u v hb h1 h2 => by
    have hn := none_many (u := (x, y, z, f, g, h, t)) (ws := 1) HD.out.1 HD.out.2 (by rw [hN, Int.toNat_natCast]; omega) (List.replicate cb 0)
    rw [hN, Int.toNat_natCast] at hn
    have := sall_yes (u := (x, y, z, f, g, h, t)) w1 (HO.out.later hb) HD.out.1 HD.out.2 h1 h2 (by
      unfold mayW
      rw [hN, Int.toNat_natCast, upTo_may (n := N) (by omega), may_none (n := 3 * N) cb HCb.out.1]
      rfl)
    rw [hn] at this
    refine this.mono ?_
    rintro e W' ⟨s, rfl, hs, hB⟩
    exact ⟨s, rfl, hs.weak (Nat.zero_le _), hB⟩
  have HFit : Hid (∀ w1, Below w.heap.size w w1 → Calls Tryz.prog 21 #[A3 d0 d1 d2, V7 x y z f g h t] w1 fun e W' => e = .returned (.tuple #[.bool (decide (0 < ((placesL d0 d1 d2 (x, y, z, f, g, h, t)).length : Int))), I 0]) ∧ Below w1.heap.size w1 W') := fun w1 hb => by
    have := fits_yes (p := f) (q := g) (r := h) (t := t) w1 (HO.out.later hb) HD.out.1 (mayT_D.1 HD.out.2)
    rw [fits_many HD.out.1 HD.out.2] at this
    exact this
  generalize placesL d0 d1 d2 (x, y, z, f, g, h, t) = PL at *
  have HAl : Hid (∀ (w1 : World) (u v : Value), Below w.heap.size w w1 → Wds w1 u (List.replicate 1 0) → Wds w1 v (List.replicate cb 0) → Calls Tryz.prog 8 #[A3 d0 d1 d2, V7 x y z f g h t, u, v] w1 fun e W' => ∃ s, e = .returned (.tuple #[s, I 0]) ∧ Lp W' 0 s ZL ∧ Below w1.heap.size w1 W') := fun w1 u v hb h1 h2 => by
    refine (HAz.out w1 u v hb h1 h2).mono ?_
    rintro e W' ⟨s, rfl, hs, hB⟩
    exact ⟨s, rfl, hs.weak (Nat.zero_le _), hB⟩
  go_wp2_with fail
  rw [n1, hcb]
  refine wp_region_loud2 (w0 := w3) (wordAl d0 d1 d2 (V7 x y z f g h t) 1 cb ZL) mixed (by kernel_rfl) wordAl_later ?_ ?_
  · intro i op hi act w' hTT hL hpre
    have s2 : act.tmps.getD 2 undef = .pointer (some ⟨w.heap.size, 0, none⟩) := by
      rw [Array.getD_eq_getD_getElem?, hL.out 2 (of_decide_eq_true (by kernel_rfl))]; rfl
    have s3 : act.tmps.getD 3 undef = .pointer (some ⟨w.heap.size + 1, 0, none⟩) := by
      rw [Array.getD_eq_getD_getElem?, hL.out 3 (of_decide_eq_true (by kernel_rfl))]; rfl
    have s8 : act.tmps.getD 8 undef = .int .i64 ((1 : Nat) : Int) := by
      rw [Array.getD_eq_getD_getElem?, hL.out 8 (of_decide_eq_true (by kernel_rfl))]; rfl
    have s9 : act.tmps.getD 9 undef = .int .i64 (cb : Int) := by
      rw [Array.getD_eq_getD_getElem?, hL.out 9 (of_decide_eq_true (by kernel_rfl))]; rfl
    obtain ⟨p0, p1, p2, hz⟩ := k0.three hTT
    obtain ⟨r0, r1, r2, r3, r4, r5, r6⟩ := (k1.later hTT).seven
    have rz := (k1.later hTT).lt
    have hBw := Below.refl w'.heap.size w'
    clear hL
    match i, hi with
    | 0, hi =>
      obtain rfl := Option.some.inj hi
      refine .inl ⟨A3 d0 d1 d2, w', ?_, hBw, rfl⟩
      simp [execOp, go_sem, Act.eval, s2, p0, p1, p2]
    | 1, hi =>
      obtain rfl := Option.some.inj hi
      refine .inl ⟨V7 x y z f g h t, w', ?_, hBw, rfl⟩
      simp [execOp, go_sem, Act.eval, s3, r0, r1, r2, r3, r4, r5, r6]
    | 2, hi =>
      obtain rfl := Option.some.inj hi
      refine .inl ⟨I ((1 : Nat) : Int), w', ?_, hBw, rfl⟩
      simp [execOp, go_sem, Act.eval, s8]
    | 3, hi =>
      obtain rfl := Option.some.inj hi
      have q0 : act.tmps.getD 61 undef = I ((1 : Nat) : Int) := hpre ⟨2, .data⟩ (by simp) rfl
      refine .inl ⟨_, _, ?_, (Below.refl _ w').alloc (Nat.le_refl _) _, wds_made w' 1⟩
      have hm : (Instr.makeSlice 35 (I 1) (I 1)).run Tryz.prog w' = .ok (.slice (some ⟨w'.heap.size, 0, none⟩) 1 1) (w'.alloc (.cells #[U 0] 33)) := mk_run w' 1 (by omega)
      simp only [execOp, Act.eval, q0]
      simp [hm, Result.andThen]
    | 4, hi =>
      obtain rfl := Option.some.inj hi
      refine .inl ⟨I (cb : Int), w', ?_, hBw, rfl⟩
      simp [execOp, go_sem, Act.eval, s9]
    | 5, hi =>
      obtain rfl := Option.some.inj hi
      have q0 : act.tmps.getD 63 undef = I (cb : Int) := hpre ⟨4, .data⟩ (by simp) rfl
      refine .inl ⟨_, _, ?_, (Below.refl _ w').alloc (Nat.le_refl _) _, wds_made w' cb⟩
      have hm := mk_run w' cb (by have := HCb.out.2; omega)
      simp only [execOp, Act.eval, q0]
      simp [hm, Result.andThen]
    | 6, hi =>
      obtain rfl := Option.some.inj hi
      have q0 : act.tmps.getD 59 undef = A3 d0 d1 d2 := hpre ⟨0, .data⟩ (by simp) rfl
      have q1 : act.tmps.getD 60 undef = V7 x y z f g h t := hpre ⟨1, .data⟩ (by simp) rfl
      have q2 : Wds w' (act.tmps.getD 62 undef) (List.replicate 1 0) := hpre ⟨3, .data⟩ (by simp) rfl
      have q3 : Wds w' (act.tmps.getD 64 undef) (List.replicate cb 0) := hpre ⟨5, .data⟩ (by simp) rfl
      refine .inr ⟨8, #[A3 d0 d1 d2, V7 x y z f g h t, act.tmps.getD 62 undef, act.tmps.getD 64 undef], ?_, ?_⟩
      · simp [go_sem, Act.eval, q0, q1]
      · refine (HAl.out w' _ _ (then_below hT hTT) q2 q3).mono ?_
        rintro e w'' ⟨v, rfl, hv, hB⟩
        exact ⟨_, rfl, hB, v, rfl, hv⟩
    | 7, hi =>
      obtain rfl := Option.some.inj hi
      obtain ⟨v, q0, hv⟩ : ∃ v, act.tmps.getD 65 undef = .tuple #[v, I 0] ∧ Lp w' 0 v ZL := hpre ⟨6, .data⟩ (by simp) rfl
      refine .inl ⟨.tuple #[v, I 0], w', ?_, hBw, v, rfl, hv⟩
      simp [execOp, go_sem, Act.eval, q0]
    | 8, hi =>
      obtain rfl := Option.some.inj hi
      obtain ⟨v, q0, hv⟩ : ∃ v, act.tmps.getD 58 undef = .tuple #[v, I 0] ∧ Lp w' 0 v ZL := hpre ⟨7, .data⟩ (by simp) rfl
      refine .inl ⟨v, w', ?_, hBw, hv⟩
      simp [execOp, go_sem, Act.eval, q0]
    | 9, hi =>
      obtain rfl := Option.some.inj hi
      obtain ⟨v, q0, hv⟩ : ∃ v, act.tmps.getD 58 undef = .tuple #[v, I 0] ∧ Lp w' 0 v ZL := hpre ⟨7, .data⟩ (by simp) rfl
      refine .inl ⟨I 0, w', ?_, hBw, rfl⟩
      simp [execOp, go_sem, Act.eval, q0]
    | 10, hi =>
      obtain rfl := Option.some.inj hi
      have q0 : Lp w' 0 (act.tmps.getD 66 undef) ZL := hpre ⟨8, .data⟩ (by simp) rfl
      refine .inl ⟨act.tmps.getD 66 undef, w', ?_, hBw, q0⟩
      simp [execOp, go_sem, Act.eval]
    | 11, hi =>
      obtain rfl := Option.some.inj hi
      have q0 : act.tmps.getD 67 undef = I 0 := hpre ⟨9, .data⟩ (by simp) rfl
      refine .inl ⟨I 0, w', ?_, hBw, rfl⟩
      simp [execOp, go_sem, Act.eval, q0]
    | n + 12, hi => simp at hi
  · intro vs w9 hT9 hall
    have g10 : Lp w9 0 (vs 10) ZL := hall 10 (of_decide_eq_true (by kernel_rfl))
    have g11 : vs 11 = I 0 := hall 11 (of_decide_eq_true (by kernel_rfl))
    clear hall
    simp only [List.length_cons, List.length_nil, Nat.zero_add, Nat.reduceAdd, List.range, List.range.loop, List.foldl_cons, List.foldl_nil, dstOf, List.getElem?_cons_zero, List.getElem?_cons_succ, Option.getD_some, Act.put, List.setIfInBounds_toArray, List.set_cons_succ, List.set_cons_zero, g11]
    clear g11
    generalize vs 10 = lv at *
    obtain ⟨ao, cap, rfl, _⟩ := g10.view
    generalize vs 0 = y0
    generalize vs 1 = y1
    generalize vs 2 = y2
    generalize vs 3 = y3
    generalize vs 4 = y4
    generalize vs 5 = y5
    generalize vs 6 = y6
    generalize vs 7 = y7
    generalize vs 8 = y8
    generalize vs 9 = y9
    clear vs g10
    replace hT := then_below hT hT9
    replace k0 := k0.later hT9
    replace k1 := k1.later hT9
    clear hT9 a0 a1 a2 az HAl HAz
    obtain ⟨a0, a1, a2, az⟩ := k0.three (Below.refl _ _)
    obtain ⟨s0, s1, s2, s3, s4, s5, s6⟩ := k1.seven
    have sz := k1.lt
    generalize hfv : decide (0 < (PL.length : Int)) = fv at *
    have HFv : Hid (decide (0 < (PL.length : Int)) = fv) := hfv
    clear hfv
    go_wp2_with fail
    refine (HFit.out _ hT).mono ?_
    rintro e w10 ⟨rfl, hB⟩
    replace hT := then_below hT hB
    replace k0 := k0.later hB
    replace k1 := k1.later hB
    clear hB a0 a1 a2 az s0 s1 s2 s3 s4 s5 s6 sz
    go_wp2_with (at_make; refine wpList_mkW rfl _ _ rfl 1 rfl rfl (by omega) ?_; intro w11 hK hT11)
    obtain ⟨gb, hgb⟩ : ∃ gb, gb = w10.heap.size := ⟨_, rfl⟩
    have hgn : w.heap.size ≠ gb ∧ w.heap.size + 1 ≠ gb ∧ w.heap.size ≤ gb := by
      have h1 := k1.lt
      have h2 := k0.lt
      rw [hgb]
      exact ⟨by omega, by omega, by omega⟩
    rw [← hgb] at hK ⊢
    clear hgb
    replace hT := then_below hT hT11
    replace k0 := k0.later hT11
    replace k1 := k1.later hT11
    clear hT11
    have HGn : Hid (w.heap.size ≠ gb ∧ w.heap.size + 1 ≠ gb ∧ w.heap.size ≤ gb) := hgn
    clear hgn
    go_wp2_with fail
    go_loopw [15] (fun i wr => ∃ (k : Nat), k ≤ N ∧ i = .int .i64 k ∧ Blk wr gb 33 ((upTo 1 k).map U).toArray ∧ Below w.heap.size w wr ∧ Blk wr w.heap.size 27 #[I d0, I d1, I d2] ∧ Blk wr (w.heap.size + 1) 31 #[I x, I y, I z, .bool f, .bool g, .bool h, .bool t]) (fun i _ => N - (RowKit.intOf i).toNat)
    case atStart => exact ⟨0, by omega, rfl, hK, hT, k0, k1⟩
    case round =>
      clear hK hT k0 k1
      obtain ⟨k, hk, rfl, hbk, hT, k0, k1⟩ := hrel
      obtain ⟨a0, a1, a2, az⟩ := k0.three (Below.refl _ _)
      by_cases hlt : (k : Int) < (N : Int)
      · have hk64 : k < 64 := by omega
        have q1 : (k : Int) / 64 = 0 := by omega
        have q2 : (k : Int) % 64 = k := by omega
        have n1 : k / 64 = 0 := by omega
        have n2 : k % 64 = k := by omega
        have hlen := upTo_len 1 k
        have hword := getD_lt (upTo_lt 1 k) 0
        have e0 : ∀ X : Ext wr, X.wd.cell? ⟨gb, 0, none⟩ = some (U ((upTo 1 k).getD 0 0)) := fun X => blk_get (hbk.later X.le) (by rw [hlen]; omega)
        have f0 : ∀ X : Ext wr, X.wd.frozen? ⟨gb, 0, none⟩ = false := fun X => (hbk.later X.le).frozen _
        have HBK : Hid (∀ X : Ext wr, Blk (X.wd.setCell ⟨gb, 0, none⟩ (U ((upTo 1 k).getD 0 0 ||| 2 ^ k))) gb 33 ((upTo 1 (k + 1)).map U).toArray) := fun X => by
          have := blk_put (hbk.later X.le) (k / 64) ((upTo 1 k).getD (k / 64) 0 ||| 2 ^ (k % 64))
          rw [upTo_succ]
          unfold putW
          rw [n1, n2] at this ⊢
          exact this
        have hsb := shl_bit k hk64
        have hlor := or_bit _ k hword hk64
        have hgz : gb < wr.heap.size := hbk.lt
        clear hbk hlen n1 n2 hword
        generalize (upTo 1 k).getD 0 0 ||| 2 ^ k = zz at *
        generalize (upTo 1 k).getD 0 0 = xx at *
        have HK : Hid (Below w.heap.size w wr ∧ Blk wr w.heap.size 27 #[I d0, I d1, I d2] ∧ Blk wr (w.heap.size + 1) 31 #[I x, I y, I z, .bool f, .bool g, .bool h, .bool t]) := ⟨hT, k0, k1⟩
        clear hT k0 k1
        go_wp2_with fail
        refine wp_region_tail 10 mixed (by kernel_rfl) ?_
        simp only [List.take_succ_cons, List.take_zero, List.drop_succ_cons, List.drop_zero]
        repeat (go_big_quiet_step (fail))
        refine wpQuiet_nil ?_
        intro X
        have c1 := e0 X
        have f1 := f0 X
        gi_wp2
        try rw [hsb]
        try rw [hlor]
        have hK := HBK.out X
        have hBX := (below_ext HK.out.1 X).setCell (p := ⟨gb, 0, none⟩) HGn.out.2.2 (U zz)
        have m0 := (HK.out.2.1.later X.le).other (B' := gb) 0 (U zz) HGn.out.1
        have m1 := (HK.out.2.2.later X.le).other (B' := gb) 0 (U zz) HGn.out.2.1
        generalize X.wd.setCell ⟨gb, 0, none⟩ (U zz) = W5 at *
        clear c1 f1 e0 f0 hsb hlor
        go_wp2
        go_roundw
        case rel => exact ⟨k + 1, by omega, by go_num, hK, hBX, m0, m1⟩
        case measure => simp [RowKit.intOf]; omega
      · obtain rfl : k = N := by omega
        go_wp2_with fail
        refine wp_region_loud2 (w0 := wr) (wordAm d0 d1 d2 (V7 x y z f g h t) (.slice (some ⟨gb, 0, none⟩) 1 1) cb []) mixed (by kernel_rfl) wordAm_later ?_ ?_
        · intro i op hi act w' hTT hL hpre
          have s2 : act.tmps.getD 2 undef = .pointer (some ⟨w.heap.size, 0, none⟩) := by
            rw [Array.getD_eq_getD_getElem?, hL.out 2 (of_decide_eq_true (by kernel_rfl))]; rfl
          have s3 : act.tmps.getD 3 undef = .pointer (some ⟨w.heap.size + 1, 0, none⟩) := by
            rw [Array.getD_eq_getD_getElem?, hL.out 3 (of_decide_eq_true (by kernel_rfl))]; rfl
          have s14 : act.tmps.getD 14 undef = .slice (some ⟨gb, 0, none⟩) 1 1 := by
            rw [Array.getD_eq_getD_getElem?, hL.out 14 (of_decide_eq_true (by kernel_rfl))]; rfl
          have s9 : act.tmps.getD 9 undef = .int .i64 (cb : Int) := by
            rw [Array.getD_eq_getD_getElem?, hL.out 9 (of_decide_eq_true (by kernel_rfl))]; rfl
          obtain ⟨p0, p1, p2, hz⟩ := k0.three hTT
          obtain ⟨r0, r1, r2, r3, r4, r5, r6⟩ := (k1.later hTT).seven
          have rz := (k1.later hTT).lt
          have hBw := Below.refl w'.heap.size w'
          have hwd : Wds w' (.slice (some ⟨gb, 0, none⟩) 1 1) (upTo 1 k) := by
            have := wds_of_blk (upTo_lt 1 k) (hbk.later hTT) 1
            rwa [upTo_len] at this
          clear hL
          match i, hi with
          | 0, hi =>
            obtain rfl := Option.some.inj hi
            refine .inl ⟨A3 d0 d1 d2, w', ?_, hBw, rfl⟩
            simp [execOp, go_sem, Act.eval, s2, p0, p1, p2]
          | 1, hi =>
            obtain rfl := Option.some.inj hi
            refine .inl ⟨V7 x y z f g h t, w', ?_, hBw, rfl⟩
            simp [execOp, go_sem, Act.eval, s3, r0, r1, r2, r3, r4, r5, r6]
          | 2, hi =>
            obtain rfl := Option.some.inj hi
            refine .inl ⟨.slice (some ⟨gb, 0, none⟩) 1 1, w', ?_, hBw, rfl⟩
            simp [execOp, go_sem, Act.eval, s14]
          | 3, hi =>
            obtain rfl := Option.some.inj hi
            refine .inl ⟨I (cb : Int), w', ?_, hBw, rfl⟩
            simp [execOp, go_sem, Act.eval, s9]
          | 4, hi =>
            obtain rfl := Option.some.inj hi
            have q0 : act.tmps.getD 102 undef = I (cb : Int) := hpre ⟨3, .data⟩ (by simp) rfl
            refine .inl ⟨_, _, ?_, (Below.refl _ w').alloc (Nat.le_refl _) _, wds_made w' cb⟩
            have hm := mk_run w' cb (by have := HCb.out.2; omega)
            simp only [execOp, Act.eval, q0]
            simp [hm, Result.andThen]
          | 5, hi =>
            obtain rfl := Option.some.inj hi
            have q0 : act.tmps.getD 99 undef = A3 d0 d1 d2 := hpre ⟨0, .data⟩ (by simp) rfl
            have q1 : act.tmps.getD 100 undef = V7 x y z f g h t := hpre ⟨1, .data⟩ (by simp) rfl
            have q2 : act.tmps.getD 101 undef = .slice (some ⟨gb, 0, none⟩) 1 1 := hpre ⟨2, .data⟩ (by simp) rfl
            have q3 : Wds w' (act.tmps.getD 103 undef) (List.replicate cb 0) := hpre ⟨4, .data⟩ (by simp) rfl
            refine .inr ⟨8, #[A3 d0 d1 d2, V7 x y z f g h t, .slice (some ⟨gb, 0, none⟩) 1 1, act.tmps.getD 103 undef], ?_, ?_⟩
            · simp [go_sem, Act.eval, q0, q1, q2]
            · refine (HNone.out w' _ _ (then_below hT hTT) hwd q3).mono ?_
              rintro e w'' ⟨v, rfl, hv, hB⟩
              exact ⟨_, rfl, hB, v, rfl, hv⟩
          | 6, hi =>
            obtain rfl := Option.some.inj hi
            obtain ⟨v, q0, hv⟩ : ∃ v, act.tmps.getD 104 undef = .tuple #[v, I 0] ∧ Lp w' 0 v [] := hpre ⟨5, .data⟩ (by simp) rfl
            refine .inl ⟨.tuple #[v, I 0], w', ?_, hBw, v, rfl, hv⟩
            simp [execOp, go_sem, Act.eval, q0]
          | 7, hi =>
            obtain rfl := Option.some.inj hi
            obtain ⟨v, q0, hv⟩ : ∃ v, act.tmps.getD 98 undef = .tuple #[v, I 0] ∧ Lp w' 0 v [] := hpre ⟨6, .data⟩ (by simp) rfl
            refine .inl ⟨v, w', ?_, hBw, hv⟩
            simp [execOp, go_sem, Act.eval, q0]
          | 8, hi =>
            obtain rfl := Option.some.inj hi
            obtain ⟨v, q0, hv⟩ : ∃ v, act.tmps.getD 98 undef = .tuple #[v, I 0] ∧ Lp w' 0 v [] := hpre ⟨6, .data⟩ (by simp) rfl
            refine .inl ⟨I 0, w', ?_, hBw, rfl⟩
            simp [execOp, go_sem, Act.eval, q0]
          | 9, hi =>
            obtain rfl := Option.some.inj hi
            have q0 : Lp w' 0 (act.tmps.getD 105 undef) [] := hpre ⟨7, .data⟩ (by simp) rfl
            refine .inl ⟨act.tmps.getD 105 undef, w', ?_, hBw, q0⟩
            simp [execOp, go_sem, Act.eval]
          | 10, hi =>
            obtain rfl := Option.some.inj hi
            have q0 : act.tmps.getD 106 undef = I 0 := hpre ⟨8, .data⟩ (by simp) rfl
            refine .inl ⟨I 0, w', ?_, hBw, rfl⟩
            simp [execOp, go_sem, Act.eval, q0]
          | n + 11, hi => simp at hi
        · intro vs w9' hT9 hall
          have g9 : Lp w9' 0 (vs 9) [] := hall 9 (of_decide_eq_true (by kernel_rfl))
          have g10 : vs 10 = I 0 := hall 10 (of_decide_eq_true (by kernel_rfl))
          clear hall
          simp only [List.length_cons, List.length_nil, Nat.zero_add, Nat.reduceAdd, List.range, List.range.loop, List.foldl_cons, List.foldl_nil, dstOf, List.getElem?_cons_zero, List.getElem?_cons_succ, Option.getD_some, Act.put, List.setIfInBounds_toArray, List.set_cons_succ, List.set_cons_zero, g10]
          clear g10
          generalize vs 9 = lv at *
          obtain ⟨ao', cap', rfl, _⟩ := g9.view
          clear g9
          replace hT := then_below hT hT9
          have hl := HLen.out
          have hv := HFv.out
          clear hT9 HFv HLen hbk k0 k1
          subst hv
          rw [hl]
          clear hl
          have hT' : Hid (Below w.heap.size w w9') := hT
          clear hT
          go_wp2
          go_ret
          exact ⟨by simp, hT'.out⟩

end Go.Proofs.YtfbegeopiakccaaGreatDoor

/-
  How the arguments of this seat's statements are opened: whole numbers, and rows of three of them.
-/
namespace Go.Proofs.YtfbegeopiakccaaGreatDoor
open Go.ChangeShapes Go.WideShapes Go.ChangeAt Go.RowKit

theorem own : ownKnob Tryz.prog.godebug = none := by kernel_rfl
theorem laidOut : laidOutB Tryz.prog = true := by kernel_rfl

theorem list3 {α : Type} (l : List α) (h : (⟨l⟩ : Array α).size = 3) : ∃ a b c, l = [a, b, c] := by
  match l, h with
  | [a, b, c], _ => exact ⟨a, b, c, rfl⟩

/-- A row of three whole numbers, by value. -/
theorem open_arr3 {P : Program} {w : World} {H : Type} {enc : TypeId × Value → H} {r : Reach} {b0 base : Nat} {spare : Nat → Bool} {held : Bool} {t e : TypeId} {v : Value} {d : DataW H} {p : List MemPlace}
    (ht : P.underlying t = some (.array 3 e)) (he : P.underlying e = some (.int .i64)) (hce : P.cellsOf e = 1) (hct : P.cellsOf t = 3)
    (hv : Value.okWide P w r b0 t v) (h : DataW.Trod enc P w base spare held t v d p) :
    ∃ a b c : Int, v = A3 a b c ∧ (Lit.int .i64 a).wf = true ∧ (Lit.int .i64 b).wf = true ∧ (Lit.int .i64 c).wf = true := by
  obtain ⟨cs, rfl, hsz, _⟩ : ∃ cs, v = .agg cs ∧ cs.size = P.cellsOf t ∧ Row.okWide P w r b0 t cs := by
    simpa [Value.okWide, ht] using hv
  rw [hct] at hsz
  obtain ⟨l⟩ := cs
  obtain ⟨c0, c1, c2, rfl⟩ := list3 l hsz
  obtain ⟨fuel, hf⟩ := h
  obtain ⟨y0, y1, y2, m, hx, hy0, hy1, hy2⟩ := trod_array3 ht hce hf
  obtain ⟨x0, e0, rfl, w0⟩ := DataW.trod_int he hy0
  obtain ⟨x1, e1, rfl, w1⟩ := DataW.trod_int he hy1
  obtain ⟨x2, e2, rfl, w2⟩ := DataW.trod_int he hy2
  simp at e0 e1 e2
  subst e0 e1 e2
  exact ⟨x0, x1, x2, rfl, w0, w1, w2⟩

theorem open_num {P : Program} {w : World} {H : Type} {enc : TypeId × Value → H} {r : Reach} {b0 base : Nat} {spare : Nat → Bool} {held : Bool} {t : TypeId} {k : IntKind} {v : Value} {d : DataW H} {p : List MemPlace}
    (ht : P.underlying t = some (.int k)) (hv : Value.okWide P w r b0 t v) (h : DataW.Trod enc P w base spare held t v d p) :
    ∃ a : Int, v = .int k a ∧ (Lit.int k a).wf = true := by
  obtain ⟨x, rfl, rfl, rfl, wx⟩ := open_int ht hv h
  exact ⟨x, rfl, wx⟩

theorem trod_lt' {H : Type} {enc : TypeId × Value → H} {P : Program} {W : World} {t : TypeId} {v : Value} {d : DataW H} {ps : List MemPlace} {sp : Nat → Bool} (h : DataW.Trod enc P W 0 sp true t v d ps) : ∀ x ∈ ps, x.block < W.heap.size := by
  obtain ⟨m, hm⟩ := h; exact DataW.trod_lt m _ _ _ hm

end Go.Proofs.YtfbegeopiakccaaGreatDoor

/-
  How what is asked for, and three tori, among a statement's arguments are opened.
-/
namespace Go.Proofs.YtfbegeopiakccaaGreatDoor
open Go.ChangeShapes Go.WideShapes Go.ChangeAt Go.RowKit

theorem list7 {α : Type} (l : List α) (h : (⟨l⟩ : Array α).size = 7) : ∃ a b c d e f g, l = [a, b, c, d, e, f, g] := by
  match l, h with
  | [a, b, c, d, e, f, g], _ => exact ⟨a, b, c, d, e, f, g, rfl⟩

set_option maxRecDepth 100000 in
theorem open_bool3 {w : World} {H : Type} {enc : TypeId × Value → H} {r : Reach} {b0 base : Nat} {spare : Nat → Bool} {held : Bool} {v : Value} {d : DataW H} {p : List MemPlace}
    (hv : Value.okWide Tryz.prog w r b0 29 v) (h : DataW.Trod enc Tryz.prog w base spare held 29 v d p) : ∃ f g k : Bool, v = B3 f g k := by
  obtain ⟨cs, rfl, hsz, _⟩ : ∃ cs, v = .agg cs ∧ cs.size = Tryz.prog.cellsOf 29 ∧ Row.okWide Tryz.prog w r b0 29 cs := by
    simpa [Value.okWide, Tryz.underlying29] using hv
  have hct : Tryz.prog.cellsOf 29 = 3 := by kernel_rfl
  have hce : Tryz.prog.cellsOf 4 = 1 := by kernel_rfl
  rw [hct] at hsz
  obtain ⟨l⟩ := cs
  obtain ⟨c0, c1, c2, rfl⟩ := list3 l hsz
  obtain ⟨fuel, hf⟩ := h
  obtain ⟨y0, y1, y2, m, hx, hy0, hy1, hy2⟩ := trod_array3 Tryz.underlying29 hce hf
  obtain ⟨x0, e0, rfl⟩ := DataW.trod_bool Tryz.underlying4 hy0
  obtain ⟨x1, e1, rfl⟩ := DataW.trod_bool Tryz.underlying4 hy1
  obtain ⟨x2, e2, rfl⟩ := DataW.trod_bool Tryz.underlying4 hy2
  simp at e0 e1 e2
  subst e0 e1 e2
  exact ⟨x0, x1, x2, rfl⟩

set_option maxRecDepth 100000 in
theorem open_wants {w : World} {H : Type} {enc : TypeId × Value → H} {r : Reach} {b0 base : Nat} {spare : Nat → Bool} {held : Bool} {v : Value} {d : DataW H} {p : List MemPlace}
    (hv : Value.okWide Tryz.prog w r b0 31 v) (h : DataW.Trod enc Tryz.prog w base spare held 31 v d p) :
    ∃ (x y z : Int) (f g k t : Bool), v = V7 x y z f g k t ∧ (Lit.int .i64 x).wf = true ∧ (Lit.int .i64 y).wf = true ∧ (Lit.int .i64 z).wf = true := by
  obtain ⟨f0, f1, f2, hu, t0, o0, t1, o1, t2, o2⟩ : ∃ f0 f1 f2, Tryz.prog.underlying 31 = some (.struct #[f0, f1, f2]) ∧ f0.type = 26 ∧ f0.offset = 0 ∧ f1.type = 29 ∧ f1.offset = 3 ∧ f2.type = 4 ∧ f2.offset = 6 := ⟨_, _, _, rfl, rfl, rfl, rfl, rfl, rfl, rfl⟩
  obtain ⟨cs, rfl, hsz, _⟩ : ∃ cs, v = .agg cs ∧ cs.size = Tryz.prog.cellsOf 31 ∧ Row.okWide Tryz.prog w r b0 31 cs := by
    simpa [Value.okWide, hu] using hv
  have hct : Tryz.prog.cellsOf 31 = 7 := by kernel_rfl
  rw [hct] at hsz
  obtain ⟨l⟩ := cs
  obtain ⟨c0, c1, c2, c3, c4, c5, c6, rfl⟩ := list7 l hsz
  obtain ⟨fuel, hf⟩ := h
  obtain ⟨x0, x1, x2, n, _, _, h0, h1, h2⟩ := Go.Deep.trod_struct3 hu hf
  have hc3 : Tryz.prog.cellsOf 26 = 3 := by kernel_rfl
  have hc3' : Tryz.prog.cellsOf 29 = 3 := by kernel_rfl
  have hc1 : Tryz.prog.cellsOf 3 = 1 := by kernel_rfl
  have hc1' : Tryz.prog.cellsOf 4 = 1 := by kernel_rfl
  rw [t0, o0, hc3] at h0
  rw [t1, o1, hc3'] at h1
  rw [t2, o2, hc1'] at h2
  have h0 : DataW.trod enc Tryz.prog w base spare held n 26 [c0, c1, c2] = some x0 := h0
  have h1 : DataW.trod enc Tryz.prog w base spare held n 29 [c3, c4, c5] = some x1 := h1
  have h2 : DataW.trod enc Tryz.prog w base spare held n 4 [c6] = some x2 := h2
  obtain ⟨_, _, _, m, _, g0, g1, g2⟩ := trod_array3 Tryz.underlying26 hc1 h0
  obtain ⟨_, _, _, m', _, g3, g4, g5⟩ := trod_array3 Tryz.underlying29 hc1' h1
  obtain ⟨y0, e0, _, w0⟩ := DataW.trod_int Tryz.underlying3 g0
  obtain ⟨y1, e1, _, w1⟩ := DataW.trod_int Tryz.underlying3 g1
  obtain ⟨y2, e2, _, w2⟩ := DataW.trod_int Tryz.underlying3 g2
  obtain ⟨y3, e3, _⟩ := DataW.trod_bool Tryz.underlying4 g3
  obtain ⟨y4, e4, _⟩ := DataW.trod_bool Tryz.underlying4 g4
  obtain ⟨y5, e5, _⟩ := DataW.trod_bool Tryz.underlying4 g5
  obtain ⟨y6, e6, _⟩ := DataW.trod_bool Tryz.underlying4 h2
  simp at e0 e1 e2 e3 e4 e5 e6
  subst e0 e1 e2 e3 e4 e5 e6
  exact ⟨y0, y1, y2, y3, y4, y5, y6, rfl, w0, w1, w2⟩

end Go.Proofs.YtfbegeopiakccaaGreatDoor

/-
  What the statements that list turn's orders ask ahead of a walk: the orders lie in their variable, as the condition says.
-/
namespace Go.Proofs.YtfbegeopiakccaaGreatDoor
open Go Go.ChangeShapes Go.WideShapes Go.ChangeAt Go.RowKit

def ordLaid : List (String × DataW Unit) := [("tidehall/turn.orders", Rows.laid_tidehall_turn_orders)]

theorem ord_named : Tryz.prog.globalNamed "tidehall/turn.orders" = some 0 := by kernel_rfl
theorem ord_type : (Tryz.prog.globals[0]?).map (·.type) = some 121 := by kernel_rfl

/-- The heap that the program's own start leaves meets the condition. -/
theorem ord_met (os : Os) (args : Array Value) : laidMetH Tryz.prog ordLaid ((World.doorLaid Tryz.prog 20 os).forCall (fun _ _ => 0) ⟨#[], args, []⟩).memory :=
  laidMetH_of_parts3 (fuel := 8) (laidMet_of_run' 8 (by kernel_rfl) (by kernel_rfl)) (by kernel_rfl) (by kernel_rfl)

/-- A row of three numbers that reads as three known ones holds them. -/
theorem row_of {W : World} {fuel : Nat} {cs : List Value} {a b c : Int} {p : List MemPlace}
    (h : DataW.trod (fun _ => ()) Tryz.prog W 0 (fun _ => true) false fuel 26 cs = some (.agg [.lit (.int .i64 a), .lit (.int .i64 b), .lit (.int .i64 c)], p)) : cs = [.int .i64 a, .int .i64 b, .int .i64 c] :=
  Lib.cells_of_tab (zs := [a, b, c]) Tryz.underlying26 Tryz.underlying3 (by kernel_rfl) (by kernel_rfl) h

theorem ord_cells {W : World} {fuel : Nat} {cs : List Value} {p : List MemPlace} (h : DataW.trod (fun _ => ()) Tryz.prog W 0 (fun _ => true) false fuel 121 cs = some (Rows.laid_tidehall_turn_orders, p)) : cs = ordFlat.map (Value.int .i64) := by
  have hc3 : Tryz.prog.cellsOf 26 = 3 := by kernel_rfl
  have hc18 : Tryz.prog.cellsOf 121 = 18 := by kernel_rfl
  cases fuel with
  | zero => simp [DataW.trod] at h
  | succ fuel =>
    simp only [DataW.trod, Tryz.underlying121, hc3, hc18] at h
    split at h
    · rename_i hl
      obtain ⟨xs, hm, hx⟩ := Option.map_eq_some_iff.1 h
      have hd := congrArg Prod.fst hx
      simp only [Rows.laid_tidehall_turn_orders, DataW.agg.injEq] at hd
      have hget : ∀ i, i < 6 → ∃ d q, xs[i]? = some (d, q) ∧ DataW.trod (fun _ => ()) Tryz.prog W 0 (fun _ => true) false fuel 26 ((cs.drop (i * 3)).take 3) = some (d, q) := by
        intro i hi
        obtain ⟨b, hb, hf⟩ := Lib.mapM_at hm i i (by simp [hi])
        exact ⟨b.1, b.2, hb, hf⟩
      have s : ∀ n, (cs.drop n).take 3 ++ cs.drop (n + 3) = cs.drop n := fun n => by
        have := List.take_append_drop 3 (cs.drop n)
        rwa [List.drop_drop] at this
      have h15 : (cs.drop 15).take 3 = cs.drop 15 := List.take_of_length_le (by simp [hl])
      have e : cs = (cs.drop 0).take 3 ++ ((cs.drop 3).take 3 ++ ((cs.drop 6).take 3 ++ ((cs.drop 9).take 3 ++ ((cs.drop 12).take 3 ++ (cs.drop 15).take 3)))) := by
        rw [h15, s 12, s 9, s 6, s 3, s 0]; rfl
      have r0 : (cs.drop 0).take 3 = [.int .i64 0, .int .i64 1, .int .i64 2] := by
        obtain ⟨d, q, hx, hf⟩ := hget 0 (by omega)
        have := congrArg (fun l => l[0]?) hd
        simp only [List.getElem?_map, hx, Option.map_some, List.getElem?_cons_zero, Option.some.injEq] at this
        subst this
        exact row_of hf
      have r1 : (cs.drop 3).take 3 = [.int .i64 0, .int .i64 2, .int .i64 1] := by
        obtain ⟨d, q, hx, hf⟩ := hget 1 (by omega)
        have := congrArg (fun l => l[1]?) hd
        simp only [List.getElem?_map, hx, Option.map_some, List.getElem?_cons_zero, List.getElem?_cons_succ, Option.some.injEq] at this
        subst this
        exact row_of hf
      have r2 : (cs.drop 6).take 3 = [.int .i64 1, .int .i64 0, .int .i64 2] := by
        obtain ⟨d, q, hx, hf⟩ := hget 2 (by omega)
        have := congrArg (fun l => l[2]?) hd
        simp only [List.getElem?_map, hx, Option.map_some, List.getElem?_cons_zero, List.getElem?_cons_succ, Option.some.injEq] at this
        subst this
        exact row_of hf
      have r3 : (cs.drop 9).take 3 = [.int .i64 1, .int .i64 2, .int .i64 0] := by
        obtain ⟨d, q, hx, hf⟩ := hget 3 (by omega)
        have := congrArg (fun l => l[3]?) hd
        simp only [List.getElem?_map, hx, Option.map_some, List.getElem?_cons_zero, List.getElem?_cons_succ, Option.some.injEq] at this
        subst this
        exact row_of hf
      have r4 : (cs.drop 12).take 3 = [.int .i64 2, .int .i64 0, .int .i64 1] := by
        obtain ⟨d, q, hx, hf⟩ := hget 4 (by omega)
        have := congrArg (fun l => l[4]?) hd
        simp only [List.getElem?_map, hx, Option.map_some, List.getElem?_cons_zero, List.getElem?_cons_succ, Option.some.injEq] at this
        subst this
        exact row_of hf
      have r5 : (cs.drop 15).take 3 = [.int .i64 2, .int .i64 1, .int .i64 0] := by
        obtain ⟨d, q, hx, hf⟩ := hget 5 (by omega)
        have := congrArg (fun l => l[5]?) hd
        simp only [List.getElem?_map, hx, Option.map_some, List.getElem?_cons_zero, List.getElem?_cons_succ, Option.some.injEq] at this
        subst this
        exact row_of hf
      rw [e, r0, r1, r2, r3, r4, r5]
      rfl
    · cases h

theorem ord_of {W : World} (h : laidMetH Tryz.prog ordLaid W) : OrdOk W := by
  rw [MakeChecks.laidMetH_plain _ _ _ (by kernel_rfl)] at h
  obtain ⟨ps, ⟨g', t', cs, fuel, p, q, hg', ht', hvar, hd, _, _⟩, _⟩ := h
  obtain rfl := Option.some.inj (ord_named.symm.trans hg')
  obtain rfl := Option.some.inj (ord_type.symm.trans ht')
  have hc := ord_cells hd
  intro j hj
  have := World.var?_cell ord_named hvar j
  rw [this, ← Array.getElem?_toList, hc]
  have hl : j < ordFlat.length := hj
  simp [hl]

/-- No parameter's type asks for a stand-in. -/
theorem no_stand_in (ts : Array TypeId) (h : (ts.toList.all fun t => !Tryz.prog.wantsStandIn t) = true) (j : Nat) (t : TypeId) (ht : ts[j]? = some t) : Tryz.prog.wantsStandIn t = false := by
  have hm : t ∈ ts.toList := by
    obtain ⟨hlt, he⟩ := Array.getElem?_eq_some_iff.1 ht
    rw [← he]
    exact Array.getElem_mem_toList hlt
  have := List.all_eq_true.1 h t hm
  simpa using this

end Go.Proofs.YtfbegeopiakccaaGreatDoor

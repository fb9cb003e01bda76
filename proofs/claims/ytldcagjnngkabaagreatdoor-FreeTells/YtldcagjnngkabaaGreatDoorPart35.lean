/-
  What the document's own answer for layer 6 gives: Taken, Sets, Apart.
-/
import Derived.Test.YtldcagjnngkabaaGreatDoorRefCables
import Derived.Test.YtldcagjnngkabaaGreatDoorPart11
import Derived.Test.YtldcagjnngkabaaGreatDoorPart16
import Derived.Test.YtldcagjnngkabaaGreatDoorPart28
import Derived.Test.YtldcagjnngkabaaGreatDoorPart13
import Derived.Test.YtldcagjnngkabaaGreatDoorPart15
namespace Go.Proofs.YtldcagjnngkabaaGreatDoor
open Go Go.RowKit Go.Shelf

attribute [local go_sem] Oper.semAt_some ext_const

/-- What each operation of Taken's last statement keeps. -/
def wordT6 (d0 d1 d2 N M : Int) (b : Bx) (t0 t1 t2 : Bool) (B base : Nat) (X Y : List Int) (S1 S2 : List Nat) (i : Nat) (v : Value) (w : World) : Prop :=
  match i with
  | 0 => v = I N
  | 1 => v = A3 d0 d1 d2
  | 2 => v = .pointer (some ⟨B, 0, none⟩)
  | 3 => v = B6 b
  | 4 => Lst w base v X
  | 5 => SetR w base v S1
  | 6 => v = I N
  | 7 => v = I M
  | 8 => v = A3 d0 d1 d2
  | 9 => v = P9 b t0 t1 t2
  | 10 => Lst w base v Y
  | 11 => SetR w base v S2
  | 12 => SetR w base v S1
  | 13 => SetR w base v S2
  | _ => False
theorem wordT6_later {d0 d1 d2 N M : Int} {b : Bx} {t0 t1 t2 : Bool} {B base : Nat} {X Y : List Int} {S1 S2 : List Nat} (i : Nat) (v : Value) (w w' : World) (h : wordT6 d0 d1 d2 N M b t0 t1 t2 B base X Y S1 S2 i v w) (hB : Below w.heap.size w w') : wordT6 d0 d1 d2 N M b t0 t1 t2 B base X Y S1 S2 i v w' := by
  match i, h with
  | 0, h => exact h
  | 1, h => exact h
  | 2, h => exact h
  | 3, h => exact h
  | 4, h => exact h.later hB
  | 5, h => exact h.later hB
  | 6, h => exact h
  | 7, h => exact h
  | 8, h => exact h
  | 9, h => exact h
  | 10, h => exact h.later hB
  | 11, h => exact h.later hB
  | 12, h => exact h.later hB
  | 13, h => exact h.later hB
  | n + 14, h => exact h.elim

set_option maxRecDepth 100000 in
set_option maxHeartbeats 8000000 in
theorem rtaken_calls {d0 d1 d2 : Int} {b : Bx} {t0 t1 t2 : Bool} (w : World) (hm : mayD d0 d1 d2) (hp : mayP d0 d1 d2 b t0 t1 t2) :
    Calls Tryz.prog 79 #[A3 d0 d1 d2, P9 b t0 t1 t2] w fun e W' => ∃ u v, e = .returned (.tuple #[u, v]) ∧ SetR W' w.heap.size u (midW d0 d1 d2 b) ∧ SetR W' w.heap.size v (cabsW d0 d1 d2 b t0 t1 t2) ∧ Below w.heap.size w W' := by
  have hmx : Tryz.prog.follows .mixedOrders = true := by kernel_rfl
  have hN := N_bd hm
  have HN : Hid (∀ w, Calls Tryz.prog 39 #[A3 d0 d1 d2] w fun e W' => e = .returned (I (d0 * d1 * d2)) ∧ Below w.heap.size w W') := fun w => rn_calls w hm
  have HA : Hid (∀ w, Calls Tryz.prog 116 #[A3 d0 d1 d2, B6 b] w fun e W' => ∃ v, e = .returned v ∧ Lst W' w.heap.size v (nodesB d0 d1 d2 b) ∧ Below w.heap.size w W') := fun w => rall_calls w hm hp.1
  have HC : Hid (∀ w, Calls Tryz.prog 117 #[A3 d0 d1 d2, P9 b t0 t1 t2] w fun e W' => ∃ v, e = .returned v ∧ Lst W' w.heap.size v (cabsL d0 d1 d2 b t0 t1 t2) ∧ Below w.heap.size w W') := fun w => rcables_calls w hm hp
  have HF1 : Hid (∀ w v base, Lst w base v (nodesB d0 d1 d2 b) → Calls Tryz.prog 75 #[I (d0 * d1 * d2), v] w fun e W' => ∃ u, e = .returned u ∧ SetR W' w.heap.size u (midW d0 d1 d2 b) ∧ Below w.heap.size w W') :=
    fun w v base hv => from_set w hv (by have := nodesB_len hm b; omega) (by omega) (by omega) (fun x hx => (nodesP_mem.1 hx).1) (nodes_in d0 d1 d2 b)
  have HF2 : Hid (∀ w v base, Lst w base v (cabsL d0 d1 d2 b t0 t1 t2) → Calls Tryz.prog 75 #[I (3 * (d0 * d1 * d2)), v] w fun e W' => ∃ u, e = .returned u ∧ SetR W' w.heap.size u (cabsW d0 d1 d2 b t0 t1 t2) ∧ Below w.heap.size w W') :=
    fun w v base hv => from_set w hv (by have := cabsL_len hm hp; omega) (by omega) (by omega) (fun x hx => by obtain ⟨k, o, ho, _, rfl⟩ := (cabsL_mem hm hp).1 hx; exact cab_node ho k) (cabs_in hm hp)
  have hW3 : IntKind.i64.wrap (3 * (d0 * d1 * d2)) = 3 * (d0 * d1 * d2) := by rw [IntKind.wrap_i64]; omega
  clear hm hp
  generalize cabsW d0 d1 d2 b t0 t1 t2 = S2 at *
  generalize midW d0 d1 d2 b = S1 at *
  generalize cabsL d0 d1 d2 b t0 t1 t2 = Y at *
  generalize nodesB d0 d1 d2 b = X at *
  generalize d0 * d1 * d2 = N at *
  go_enter Tryz.func79, Tryz.ntmps79
  go_wp2_with fail
  obtain ⟨W, hW, hB0, b0, b1⟩ := two_start w #[I d0, I d1, I d2] (C9 b t0 t1 t2) 23 43
  rw [hW]
  clear hW
  refine (HN.out _).mono ?_
  rintro e w1 ⟨rfl, hT⟩
  have q0 := b0.later hT
  have q1 := b1.later hT
  have hB1 := then_below hB0 hT
  clear hT b0 b1 hB0
  go_wp2_with fail
  refine wp_region_loud (w0 := w1) (wordT6 d0 d1 d2 N (3 * N) b t0 t1 t2 (w.heap.size + 1) w1.heap.size X Y S1 S2) hmx (by kernel_rfl) wordT6_later ?_ ?_
  · intro i o hi a w' hT hL hpre
    have s2 : a.tmps.getD 2 undef = .pointer (some ⟨w.heap.size, 0, none⟩) := by
      rw [Array.getD_eq_getD_getElem?, hL.out 2 (of_decide_eq_true (by kernel_rfl))]; rfl
    have s3 : a.tmps.getD 3 undef = .pointer (some ⟨w.heap.size + 1, 0, none⟩) := by
      rw [Array.getD_eq_getD_getElem?, hL.out 3 (of_decide_eq_true (by kernel_rfl))]; rfl
    have s6 : a.tmps.getD 6 undef = I N := by
      rw [Array.getD_eq_getD_getElem?, hL.out 6 (of_decide_eq_true (by kernel_rfl))]; rfl
    obtain ⟨c0, c1, c2, hz⟩ := q0.three hT
    obtain ⟨⟨x0, x1, x2⟩, ⟨x3, x4, x5⟩, ⟨x6, x7, x8⟩, hz1⟩ := q1.nine hT
    clear hL
    match i, hi with
    | 0, hi =>
      obtain rfl := Option.some.inj hi
      refine .inl ⟨I N, ?_, rfl⟩
      simp [execOp, go_sem, Act.eval, s6]
    | 1, hi =>
      obtain rfl := Option.some.inj hi
      refine .inl ⟨A3 d0 d1 d2, ?_, rfl⟩
      simp [execOp, go_sem, Act.eval, s2, c0, c1, c2]
    | 2, hi =>
      obtain rfl := Option.some.inj hi
      refine .inl ⟨.pointer (some ⟨w.heap.size + 1, 0, none⟩), ?_, rfl⟩
      simp [execOp, go_sem, Act.eval, s3]
    | 3, hi =>
      obtain rfl := Option.some.inj hi
      have p0 : a.tmps.getD 11 undef = .pointer (some ⟨w.heap.size + 1, 0, none⟩) := hpre ⟨2, .data⟩ (by simp) rfl
      refine .inl ⟨B6 b, ?_, rfl⟩
      simp [execOp, go_sem, Act.eval, p0, x0, x1, x2, x3, x4, x5]
    | 4, hi =>
      obtain rfl := Option.some.inj hi
      have p0 : a.tmps.getD 10 undef = A3 d0 d1 d2 := hpre ⟨1, .data⟩ (by simp) rfl
      have p1 : a.tmps.getD 12 undef = B6 b := hpre ⟨3, .data⟩ (by simp) rfl
      refine .inr ⟨116, #[A3 d0 d1 d2, B6 b], ?_, ?_⟩
      · simp [go_sem, Act.eval, p0, p1]
      · refine (HA.out w').mono ?_
        rintro e w'' ⟨u, rfl, hl, hB⟩
        exact ⟨_, rfl, hB, hl.weak hT.size⟩
    | 5, hi =>
      obtain rfl := Option.some.inj hi
      have p0 : a.tmps.getD 9 undef = I N := hpre ⟨0, .data⟩ (by simp) rfl
      have p1 : Lst w' w1.heap.size (a.tmps.getD 13 undef) X := hpre ⟨4, .data⟩ (by simp) rfl
      refine .inr ⟨75, #[I N, a.tmps.getD 13 undef], ?_, ?_⟩
      · simp [go_sem, Act.eval, p0]
      · refine (HF1.out w' _ _ p1).mono ?_
        rintro e w'' ⟨u, rfl, hl, hB⟩
        exact ⟨_, rfl, hB, hl.weak hT.size⟩
    | 6, hi =>
      obtain rfl := Option.some.inj hi
      refine .inl ⟨I N, ?_, rfl⟩
      simp [execOp, go_sem, Act.eval, s6]
    | 7, hi =>
      obtain rfl := Option.some.inj hi
      have p0 : a.tmps.getD 15 undef = I N := hpre ⟨6, .data⟩ (by simp) rfl
      refine .inl ⟨I (3 * N), ?_, rfl⟩
      simp [execOp, go_sem, Act.eval, p0, hW3]
    | 8, hi =>
      obtain rfl := Option.some.inj hi
      refine .inl ⟨A3 d0 d1 d2, ?_, rfl⟩
      simp [execOp, go_sem, Act.eval, s2, c0, c1, c2]
    | 9, hi =>
      obtain rfl := Option.some.inj hi
      refine .inl ⟨P9 b t0 t1 t2, ?_, rfl⟩
      simp [execOp, go_sem, Act.eval, s3, x0, x1, x2, x3, x4, x5, x6, x7, x8]
    | 10, hi =>
      obtain rfl := Option.some.inj hi
      have p0 : a.tmps.getD 17 undef = A3 d0 d1 d2 := hpre ⟨8, .data⟩ (by simp) rfl
      have p1 : a.tmps.getD 18 undef = P9 b t0 t1 t2 := hpre ⟨9, .data⟩ (by simp) rfl
      refine .inr ⟨117, #[A3 d0 d1 d2, P9 b t0 t1 t2], ?_, ?_⟩
      · simp [go_sem, Act.eval, p0, p1]
      · refine (HC.out w').mono ?_
        rintro e w'' ⟨u, rfl, hl, hB⟩
        exact ⟨_, rfl, hB, hl.weak hT.size⟩
    | 11, hi =>
      obtain rfl := Option.some.inj hi
      have p0 : a.tmps.getD 16 undef = I (3 * N) := hpre ⟨7, .data⟩ (by simp) rfl
      have p1 : Lst w' w1.heap.size (a.tmps.getD 19 undef) Y := hpre ⟨10, .data⟩ (by simp) rfl
      refine .inr ⟨75, #[I (3 * N), a.tmps.getD 19 undef], ?_, ?_⟩
      · simp [go_sem, Act.eval, p0]
      · refine (HF2.out w' _ _ p1).mono ?_
        rintro e w'' ⟨u, rfl, hl, hB⟩
        exact ⟨_, rfl, hB, hl.weak hT.size⟩
    | 12, hi =>
      obtain rfl := Option.some.inj hi
      have p0 : SetR w' w1.heap.size (a.tmps.getD 14 undef) S1 := hpre ⟨5, .data⟩ (by simp) rfl
      refine .inl ⟨a.tmps.getD 14 undef, ?_, p0⟩
      simp [execOp, go_sem, Act.eval]
    | 13, hi =>
      obtain rfl := Option.some.inj hi
      have p0 : SetR w' w1.heap.size (a.tmps.getD 20 undef) S2 := hpre ⟨11, .data⟩ (by simp) rfl
      refine .inl ⟨a.tmps.getD 20 undef, ?_, p0⟩
      simp [execOp, go_sem, Act.eval]
    | n + 14, hi => simp at hi
  · intro vs w2 hT hall
    have h12 : SetR w2 w1.heap.size (vs 12) S1 := hall 12 (of_decide_eq_true (by kernel_rfl))
    have h13 : SetR w2 w1.heap.size (vs 13) S2 := hall 13 (of_decide_eq_true (by kernel_rfl))
    clear hall
    simp only [List.length_cons, List.length_nil, Nat.zero_add, Nat.reduceAdd, List.range, List.range.loop, List.foldl_cons, List.foldl_nil, dstOf, List.getElem?_cons_zero, List.getElem?_cons_succ, Option.getD_some, Act.put, List.setIfInBounds_toArray, List.set_cons_succ, List.set_cons_zero]
    go_wp2
    go_ret2
    exact ⟨_, _, rfl, h12.weak hB1.size, h13.weak hB1.size, then_below hB1 hT⟩

end Go.Proofs.YtldcagjnngkabaaGreatDoor

/-
  The document's May, Check, Same of a machine's calendars (tidehallref09).
-/
namespace Go.Proofs.YtldcagjnngkabaaGreatDoor
open Go Go.RowKit Go.Shelf

attribute [local go_sem] Oper.semAt_some ext_const

set_option maxRecDepth 100000 in
set_option maxHeartbeats 4000000 in
theorem rmays_calls {cs : List (List Slt)} {v : Value} (w : World) (hS : Yl w v cs) (hn : cs.length ≤ 100000) (hx : ∀ k, (cs.getD k []).length ≤ 10000) :
    Calls Tryz.prog 81 #[v] w fun e W' => e = .returned (.bool (maysC cs)) ∧ Below w.heap.size w W' := by
  obtain ⟨ao, cap, rfl, hS⟩ := hS.form
  have HS : Hid (Yl w (.slice ao cs.length cap) cs) := hS
  have HX : Hid (∀ k, (cs.getD k []).length ≤ 10000) := hx
  have H1 : Hid (∀ k : Nat, k < cs.length → mayCB (cs.getD k []) = false → maysC cs = false) := fun k hk h => firstBad ⟨k, hk, h⟩
  have H2 : Hid ((∀ j, j < cs.length → mayCB (cs.getD j []) = true) → maysC cs = true) := noneBad
  generalize maysC cs = ans at H1 H2 ⊢
  clear hS hx
  go_enter Tryz.func81, Tryz.ntmps81
  go_wp2
  go_loopw [3] (fun i wr => ∃ k : Nat, k ≤ cs.length ∧ i = .int .i64 k ∧ Hid (∀ j, j < k → mayCB (cs.getD j []) = true) ∧ Below w.heap.size w wr) (fun i _ => cs.length - (RowKit.intOf i).toNat)
  case atStart => exact ⟨0, by omega, rfl, fun j hj => by omega, Below.refl _ _⟩
  case round =>
    obtain ⟨k, hk, rfl, H0, hT⟩ := hrel
    by_cases hlt : (k : Int) < (cs.length : Int)
    · have hk' : k < cs.length := by omega
      obtain ⟨g, off, bo, m, c, rfl, hg, hc, hs⟩ := (HS.out.later hT).get hk'
      have HC : Hid (∀ r, mayCB (cs.getD k []) = r → Calls Tryz.prog 118 #[.slice bo m c] wr fun e W' => e = .returned (.bool r) ∧ Below wr.heap.size wr W') := fun r hr => by
        have := rmayC_calls wr hs (by have := HX.out k; omega)
        rwa [hr] at this
      clear hs
      cases hm : mayCB (cs.getD k [])
      · have E : ans = false := H1.out k hk' hm
        subst E
        have HC1 : Hid (Calls Tryz.prog 118 #[.slice bo m c] wr fun e W' => e = .returned (.bool false) ∧ Below wr.heap.size wr W') := HC.out _ hm
        clear hm HC
        go_wp2_with fail
        refine HC1.out.mono ?_
        rintro e w1 ⟨rfl, hB1⟩
        go_wp2
        go_ret
        exact ⟨rfl, then_below hT hB1⟩
      · have HJ : Hid (∀ j, j < k + 1 → mayCB (cs.getD j []) = true) := fun j hj => by
          rcases Nat.lt_succ_iff_lt_or_eq.1 hj with h | rfl
          · exact H0.out j h
          · exact hm
        have HC1 : Hid (Calls Tryz.prog 118 #[.slice bo m c] wr fun e W' => e = .returned (.bool true) ∧ Below wr.heap.size wr W') := HC.out _ hm
        clear hm HC
        go_wp2_with fail
        refine HC1.out.mono ?_
        rintro e w1 ⟨rfl, hB1⟩
        go_wp2
        go_roundw
        case rel => exact ⟨k + 1, by omega, by go_num, HJ, then_below hT hB1⟩
        case measure => simp [RowKit.intOf]; omega
    · have E : ans = true := H2.out fun j hj => H0.out j (by omega)
      subst E
      go_wp2
      go_ret
      exact ⟨rfl, hT⟩

set_option maxRecDepth 100000 in
set_option maxHeartbeats 8000000 in
theorem rmayY_calls {a b c : Int} {n l : Value} {ns ls : List (List Slt)} (w : World) (hN : Yl w n ns) (hL : Yl w l ls) (hs : Small ns ls) :
    Calls Tryz.prog 41 #[Y5 a b c n l] w fun e W' => e = .returned (.bool (mayYB a b c ns ls)) ∧ Below w.heap.size w W' := by
  obtain ⟨W, hW, hB, hK⟩ := one_start w (K5 a b c n l) 26
  have HW : Hid (w.alloc (.cells (K5 a b c n l) 26) = W) := hW
  have h200 := hs.nodes
  have h600 := hs.links
  have HN : Hid (∀ w1, Below W.heap.size W w1 → Calls Tryz.prog 81 #[n] w1 fun e W' => e = .returned (.bool (maysC ns)) ∧ Below w1.heap.size w1 W') := fun w1 hb => rmays_calls w1 (hN.later (then_below hB hb)) (by omega) hs.node
  have HL : Hid (∀ w1, Below W.heap.size W w1 → Calls Tryz.prog 81 #[l] w1 fun e W' => e = .returned (.bool (maysC ls)) ∧ Below w1.heap.size w1 W') := fun w1 hb => rmays_calls w1 (hL.later (then_below hB hb)) (by omega) hs.link
  obtain ⟨an, cn, rfl, _⟩ := hN.form
  obtain ⟨al, cl, rfl, _⟩ := hL.form
  unfold mayYB
  clear hW hN hL hs
  generalize maysC ns = q1 at *
  generalize maysC ls = q2 at *
  by_cases hd : mayD a b c
  · rw [mayDB_iff.2 hd, Bool.true_and]
    have HM : Hid (∀ w, Calls Tryz.prog 77 #[A3 a b c] w fun e W' => e = .returned (.bool true) ∧ Below w.heap.size w W') := fun w => rmay_yes w hd
    have HR : Hid (∀ w, Calls Tryz.prog 39 #[A3 a b c] w fun e W' => e = .returned (I (a * b * c)) ∧ Below w.heap.size w W') := fun w => rn_calls w hd
    have hbd := N_bd hd
    have hmul : wrap64 (3 * (a * b * c)) = 3 * (a * b * c) := wrap_in _ (by omega)
    generalize a * b * c = N at *
    generalize ns.length = nn at *
    generalize ls.length = ll at *
    clear hd
    by_cases h1 : (nn : Int) = N
    · rw [decide_eq_true h1, Bool.true_and]
      have h1b : ((nn : Int) == N) = true := by simpa using h1
      clear h1
      by_cases h2 : (ll : Int) = 3 * N
      · rw [decide_eq_true h2, Bool.true_and]
        have h2b : ((ll : Int) == 3 * N) = true := by simpa using h2
        clear h2
        cases q1
        · rw [Bool.false_and]
          go_enter Tryz.func41, Tryz.ntmps41
          go_wp2_with fail
          rw [HW.out]
          refine (HM.out _).mono ?_
          rintro e w1 ⟨rfl, hT⟩
          obtain ⟨p0, p1, p2, p3, p4, hz⟩ := hK.yard hT
          go_wp2_with fail
          refine (HR.out _).mono ?_
          rintro e w2 ⟨rfl, hB2⟩
          have hT2 := then_below hT hB2
          clear p0 p1 p2 p3 p4 hz
          obtain ⟨p0, p1, p2, p3, p4, hz⟩ := hK.yard hT2
          go_wp2_with fail
          refine (HN.out _ hT2).mono ?_
          rintro e w3 ⟨rfl, hB3⟩
          go_wp2
          go_ret
          exact ⟨rfl, then_below hB (then_below hT2 hB3)⟩
        · rw [Bool.true_and]
          go_enter Tryz.func41, Tryz.ntmps41
          go_wp2_with fail
          rw [HW.out]
          refine (HM.out _).mono ?_
          rintro e w1 ⟨rfl, hT⟩
          obtain ⟨p0, p1, p2, p3, p4, hz⟩ := hK.yard hT
          go_wp2_with fail
          refine (HR.out _).mono ?_
          rintro e w2 ⟨rfl, hB2⟩
          have hT2 := then_below hT hB2
          clear p0 p1 p2 p3 p4 hz
          obtain ⟨p0, p1, p2, p3, p4, hz⟩ := hK.yard hT2
          go_wp2_with fail
          refine (HN.out _ hT2).mono ?_
          rintro e w3 ⟨rfl, hB3⟩
          have hT3 := then_below hT2 hB3
          clear p0 p1 p2 p3 p4 hz
          obtain ⟨p0, p1, p2, p3, p4, hz⟩ := hK.yard hT3
          go_wp2_with fail
          refine (HL.out _ hT3).mono ?_
          rintro e w4 ⟨rfl, hB4⟩
          go_wp2
          go_ret
          exact ⟨rfl, then_below hB (then_below hT3 hB4)⟩
      · rw [decide_eq_false h2, Bool.false_and]
        have h2b : ((ll : Int) == 3 * N) = false := by simpa using h2
        clear h2 HN HL
        go_enter Tryz.func41, Tryz.ntmps41
        go_wp2_with fail
        rw [HW.out]
        refine (HM.out _).mono ?_
        rintro e w1 ⟨rfl, hT⟩
        obtain ⟨p0, p1, p2, p3, p4, hz⟩ := hK.yard hT
        go_wp2_with fail
        refine (HR.out _).mono ?_
        rintro e w2 ⟨rfl, hB2⟩
        have hT2 := then_below hT hB2
        clear p0 p1 p2 p3 p4 hz
        obtain ⟨p0, p1, p2, p3, p4, hz⟩ := hK.yard hT2
        go_wp2_with fail
        go_ret
        exact ⟨rfl, then_below hB hT2⟩
    · rw [decide_eq_false h1, Bool.false_and]
      have h1b : ((nn : Int) == N) = false := by simpa using h1
      clear h1 HN HL
      go_enter Tryz.func41, Tryz.ntmps41
      go_wp2_with fail
      rw [HW.out]
      refine (HM.out _).mono ?_
      rintro e w1 ⟨rfl, hT⟩
      obtain ⟨p0, p1, p2, p3, p4, hz⟩ := hK.yard hT
      go_wp2_with fail
      refine (HR.out _).mono ?_
      rintro e w2 ⟨rfl, hB2⟩
      have hT2 := then_below hT hB2
      clear p0 p1 p2 p3 p4 hz
      obtain ⟨p0, p1, p2, p3, p4, hz⟩ := hK.yard hT2
      go_wp2_with fail
      go_ret
      exact ⟨rfl, then_below hB hT2⟩
  · rw [show mayDB a b c = false by cases e : mayDB a b c; rfl; exact absurd (mayDB_iff.1 e) hd, Bool.false_and]
    have HM : Hid (∀ w, Calls Tryz.prog 77 #[A3 a b c] w fun e W' => e = .returned (.bool false) ∧ Below w.heap.size w W') := fun w => rmay_no w hd
    clear hd HN HL
    go_enter Tryz.func41, Tryz.ntmps41
    go_wp2_with fail
    rw [HW.out]
    refine (HM.out _).mono ?_
    rintro e w1 ⟨rfl, hT⟩
    go_wp2
    go_ret
    exact ⟨rfl, then_below hB hT⟩

set_option maxRecDepth 100000 in
set_option maxHeartbeats 8000000 in
theorem rlists_calls {cs ds : List (List Slt)} {u v : Value} (w : World) (hu : Yl w u cs) (hv : Yl w v ds) (hn : cs.length ≤ 100000) (hx : ∀ k, (cs.getD k []).length ≤ 100000) :
    Calls Tryz.prog 44 #[u, v] w fun e W' => e = .returned (.bool (eqL2 cs ds)) ∧ Below w.heap.size w W' := by
  have hmx : Tryz.prog.follows .mixedOrders = true := by kernel_rfl
  obtain ⟨ao, cap, rfl, hu⟩ := hu.form
  obtain ⟨ao', cap', rfl, hv⟩ := hv.form
  have HA : Hid (Yl w (.slice ao cs.length cap) cs) := hu
  have HB : Hid (Yl w (.slice ao' ds.length cap') ds) := hv
  have HX : Hid (∀ k, (cs.getD k []).length ≤ 100000) := hx
  clear hu hv hx
  obtain ⟨ans, hans⟩ : ∃ ans, ans = eqL2 cs ds := ⟨_, rfl⟩
  rw [← hans]
  have HS : Hid (ans = eqL2 cs ds) := hans
  clear hans
  by_cases hl : (cs.length : Int) = ds.length
  · have hl' : ds.length = cs.length := by omega
    clear hl
    have HL : Hid (ds.length = cs.length) := hl'
    rw [hl'] at HB ⊢
    clear hl'
    go_enter Tryz.func44, Tryz.ntmps44
    go_wp2
    go_loopw [5] (fun i wr => ∃ k : Nat, k ≤ cs.length ∧ i = .int .i64 k ∧ Hid (cs.take k = ds.take k) ∧ Below w.heap.size w wr) (fun i _ => cs.length - (RowKit.intOf i).toNat)
    case atStart => exact ⟨0, by omega, rfl, by show _ = _; simp, Below.refl _ _⟩
    case round =>
      obtain ⟨k, hk, rfl, HT, hT⟩ := hrel
      by_cases hlt : (k : Int) < (cs.length : Int)
      · have hkx : k < cs.length := by omega
        have hky : k < ds.length := by have := HL.out; omega
        obtain ⟨g, off, bo, m, c, rfl, hg, hc, hs⟩ := (HA.out.later hT).get hkx
        obtain ⟨g', off', bo', m', c', rfl, hg', hc', hs'⟩ := (HB.out.later hT).get hky
        have HE : Hid (eqC (cs.getD k []) (ds.getD k []) = true → cs.take (k + 1) = ds.take (k + 1)) := fun h => take_succL hkx hky HT.out (of_decide_eq_true h)
        have HD : Hid (eqC (cs.getD k []) (ds.getD k []) = false → ans = false) := fun h => by
          rw [HS.out]
          refine decide_eq_false fun he => ?_
          rw [he] at h
          exact absurd rfl (of_decide_eq_false h)
        have HC : Hid (∀ r, eqC (cs.getD k []) (ds.getD k []) = r → ∀ x : Ext wr, Calls Tryz.prog 84 #[.slice bo m c, .slice bo' m' c'] x.wd fun e W' => e = .returned (.bool r) ∧ Below x.wd.heap.size x.wd W') := fun r hr x => by
          have := rsameC_calls x.wd (hs.later x.le) (hs'.later x.le) (HX.out k)
          rwa [hr] at this
        have y0 : ∀ x : Ext wr, x.wd.cell? ⟨g, off + k, none⟩ = some (.slice bo m c) := fun x => (x.le.cell (p := ⟨g, off + k, none⟩) hg).trans hc
        have y1 : ∀ x : Ext wr, x.wd.cell? ⟨g', off' + k, none⟩ = some (.slice bo' m' c') := fun x => (x.le.cell (p := ⟨g', off' + k, none⟩) hg').trans hc'
        clear hs hs'
        cases hq : eqC (cs.getD k []) (ds.getD k [])
        · have hans := HD.out hq
          subst hans
          have HC1 : Hid (∀ x : Ext wr, Calls Tryz.prog 84 #[.slice bo m c, .slice bo' m' c'] x.wd fun e W' => e = .returned (.bool false) ∧ Below x.wd.heap.size x.wd W') := HC.out _ hq
          clear hq HC HE HD
          go_wp2_with fail
          refine wp_region_look hmx (by kernel_rfl) ?_
          repeat (go_big_quiet_step ((go_at_call 84; exact calls_ext (HC1.out _))))
          refine wpQuiet_nil ?_
          intro X
          have hT := then_below hT X.le
          go_wp2
          go_ret
          exact ⟨rfl, hT⟩
        · have HN : Hid (cs.take (k + 1) = ds.take (k + 1)) := HE.out hq
          have HC1 : Hid (∀ x : Ext wr, Calls Tryz.prog 84 #[.slice bo m c, .slice bo' m' c'] x.wd fun e W' => e = .returned (.bool true) ∧ Below x.wd.heap.size x.wd W') := HC.out _ hq
          clear hq HC HE HD
          go_wp2_with fail
          refine wp_region_look hmx (by kernel_rfl) ?_
          repeat (go_big_quiet_step ((go_at_call 84; exact calls_ext (HC1.out _))))
          refine wpQuiet_nil ?_
          intro X
          have hT := then_below hT X.le
          go_wp2
          go_roundw
          case rel => exact ⟨k + 1, by omega, by go_num, HN, hT⟩
          case measure => simp [RowKit.intOf]; omega
      · have E : ans = true := by
          rw [HS.out]
          refine decide_eq_true ?_
          have h1 := HT.out
          rwa [List.take_of_length_le (by omega), List.take_of_length_le (by have := HL.out; omega)] at h1
        subst E
        go_wp2
        go_ret
        exact ⟨rfl, hT⟩
  · have E : ans = false := by rw [HS.out]; refine decide_eq_false fun he => ?_; rw [he] at hl; exact hl rfl
    subst E
    go_enter Tryz.func44, Tryz.ntmps44
    go_wp2
    go_ret
    exact ⟨rfl, Below.refl _ _⟩

attribute [local go_sem high] eqD_arrD

set_option maxRecDepth 100000 in
set_option maxHeartbeats 8000000 in
theorem rSameY_calls {a b c a' b' c' : Int} {n l n' l' : Value} {ns ls ns' ls' : List (List Slt)} (w : World) (hN : Yl w n ns) (hL : Yl w l ls) (hN' : Yl w n' ns') (hL' : Yl w l' ls') (h1 : ns.length ≤ 100000) (h2 : ls.length ≤ 100000) (hx1 : ∀ k, (ns.getD k []).length ≤ 100000) (hx2 : ∀ k, (ls.getD k []).length ≤ 100000) :
    Calls Tryz.prog 20 #[Y5 a b c n l, Y5 a' b' c' n' l'] w fun e W' => e = .returned (.bool (eqY a b c ns ls a' b' c' ns' ls')) ∧ Below w.heap.size w W' := by
  obtain ⟨W, hW, hB, hK, hK2⟩ := two_start w (K5 a b c n l) (K5 a' b' c' n' l') 26 26
  have HW : Hid ((w.alloc (.cells (K5 a b c n l) 26)).alloc (.cells (K5 a' b' c' n' l') 26) = W) := hW
  have H1 : Hid (Calls Tryz.prog 44 #[n, n'] W fun e W' => e = .returned (.bool (eqL2 ns ns')) ∧ Below W.heap.size W W') := rlists_calls W (hN.later hB) (hN'.later hB) h1 hx1
  have H2 : Hid (∀ w1, Below W.heap.size W w1 → Calls Tryz.prog 44 #[l, l'] w1 fun e W' => e = .returned (.bool (eqL2 ls ls')) ∧ Below w1.heap.size w1 W') := fun w1 hb => rlists_calls w1 (hL.later (then_below hB hb)) (hL'.later (then_below hB hb)) h2 hx2
  unfold eqY
  clear hW hN hL hN' hL' h1 h2 hx1 hx2
  generalize eqL2 ns ns' = q1 at *
  generalize eqL2 ls ls' = q2 at *
  cases hd : eqD a b c a' b' c'
  · clear H1 H2
    rw [Bool.false_and]
    go_enter Tryz.func20, Tryz.ntmps20
    go_wp2
    rw [HW.out]
    go_ret
    exact ⟨rfl, hB⟩
  · cases q1
    · clear H2
      go_enter Tryz.func20, Tryz.ntmps20
      go_wp2_with fail
      rw [HW.out]
      refine H1.out.mono ?_
      rintro e w1 ⟨rfl, hT⟩
      go_wp2
      go_ret
      exact ⟨rfl, then_below hB hT⟩
    · go_enter Tryz.func20, Tryz.ntmps20
      go_wp2_with fail
      rw [HW.out]
      refine H1.out.mono ?_
      rintro e w1 ⟨rfl, hT⟩
      obtain ⟨p0, p1, p2, p3, p4, hz⟩ := hK.yard hT
      obtain ⟨q0, q1, q2', q3, q4, hz'⟩ := hK2.yard hT
      go_wp2_with fail
      refine (H2.out _ hT).mono ?_
      rintro e w2 ⟨rfl, hB2⟩
      go_wp2
      go_ret
      exact ⟨rfl, then_below hB (then_below hT hB2)⟩

end Go.Proofs.YtldcagjnngkabaaGreatDoor

/-
  The document's lists of calendars (tidehallref09): puts, ended, blocked; the sets busy and owned.
-/
namespace Go.Proofs.YtldcagjnngkabaaGreatDoor
open Go Go.RowKit Go.Shelf

attribute [local go_sem] Oper.semAt_some ext_const

theorem from_numsTo {n : Nat} (p : Nat → Bool) (h1 : 1 ≤ n) (h2 : n ≤ 12288) : Hid (∀ (w : World) (b : Nat) (u : Value), Lst w b u (numsTo p n) → Calls Tryz.prog 75 #[I n, u] w fun e W' => ∃ v, e = .returned v ∧ SetR W' w.heap.size v (setOf n p) ∧ Below w.heap.size w W') := by
  intro w b u hu
  refine (from_calls w hu.its (by have := numsTo_len p n; omega) n h1 h2 (fun i hi => ?_)).mono ?_
  · have := numsTo_mem (List.getElem_mem hi)
    simpa [hi] using this
  · rintro e W' ⟨v, ws, rfl, hS, hI, hB⟩
    have : ws = setOf n p := (hI.congr (q := fun j => decide (j < (n : Int).toNat) && p j) (fun j => by rw [numsTo_in, Int.toNat_natCast])).ext (setOf_is n p)
    exact ⟨v, rfl, .inl (this ▸ hS), hB⟩

set_option maxRecDepth 100000 in
set_option maxHeartbeats 8000000 in
theorem rputs_calls {cs : List (List Slt)} {v vm : Value} {ws : List Nat} {f t o : Int} (w : World) (hS : Yl w v cs) (hn : cs.length ≤ 10000) (hx : ∀ k, (cs.getD k []).length ≤ 10000) (hM : Wds w vm ws) :
    Calls Tryz.prog 34 #[v, vm, V3 f t o] w fun e W' => ∃ u, e = .returned u ∧ Yo W' w.heap.size u (putsC cs (hasW ws) (f, t, o) cs.length) ∧ Below w.heap.size w W' := by
  obtain ⟨ao, cap, rfl, hS⟩ := hS.form
  obtain ⟨W, hW, hB, hK⟩ := one_start w (C3 f t o) 85
  have HW : Hid (w.alloc (.cells (C3 f t o) 85) = W) := hW
  have HS : Hid (Yl W (.slice ao cs.length cap) cs) := hS.later hB
  have HM : Hid (Wds W vm ws) := hM.later hB
  have HX : Hid (∀ k, (cs.getD k []).length ≤ 10000) := hx
  have HP : Hid (∀ k, putsC cs (hasW ws) (f, t, o) (k + 1) = putsC cs (hasW ws) (f, t, o) k ++ [if hasW ws k then withC (f, t, o) (cs.getD k []) else cs.getD k []]) := putsC_succ _ _ _
  have HL : Hid (∀ k, (putsC cs (hasW ws) (f, t, o) k).length = k) := putsC_len _ _ _
  have HZ : Hid (putsC cs (hasW ws) (f, t, o) 0 = []) := rfl
  generalize putsC cs (hasW ws) (f, t, o) = pt at *
  clear hW hS hM hx
  go_enter Tryz.func34, Tryz.ntmps34
  go_wp2
  rw [HW.out]
  go_loopw [7, 8] (fun u i wr => ∃ (k : Nat) (ao' : Option Addr) (n' cap' : Nat), k ≤ cs.length ∧ i = .int .i64 k ∧ u = .slice ao' n' cap' ∧ Hid (Yo wr W.heap.size (.slice ao' n' cap') (pt k)) ∧ Below W.heap.size W wr) (fun _ i _ => cs.length - (RowKit.intOf i).toNat)
  case atStart => exact ⟨0, _, _, _, by omega, rfl, rfl, by show Yo _ _ _ _; rw [HZ.out]; exact Yo.nil _ _, Below.refl _ _⟩
  case round =>
    obtain ⟨k, ao', n', cap', hk, rfl, rfl, HY, hT⟩ := hrel
    by_cases hlt : (k : Int) < (cs.length : Int)
    · have hk' : k < cs.length := by omega
      obtain ⟨g, off, bo, m, c, rfl, hg, hcc, hs⟩ := (HS.out.later hT).get hk'
      have HSk : Hid (Ss wr (.slice bo m c) (cs.getD k [])) := hs
      have hlen := HX.out k
      have HTh : Hid (∀ w1, Below W.heap.size W w1 → Calls Tryz.prog 70 #[vm, I k] w1 fun e W' => e = .returned (.bool (hasW ws k)) ∧ W' = w1) := fun w1 hb => there_calls w1 (HM.out.later hb) k (by omega)
      have HWi : Hid (∀ w1 u, Ss w1 u (cs.getD k []) → Calls Tryz.prog 71 #[u, V3 f t o] w1 fun e W' => ∃ r, e = .returned r ∧ So W' w1.heap.size r (withC (f, t, o) (cs.getD k [])) ∧ Below w1.heap.size w1 W') := fun w1 u h => rwith_calls w1 h hlen
      have HPk : Hid (pt (k + 1) = pt k ++ [if hasW ws k then withC (f, t, o) (cs.getD k []) else cs.getD k []]) := HP.out k
      have HLk : (pt k).length ≤ 100000 := by rw [HL.out k]; omega
      have hsz := hT.size
      clear hs
      generalize withC (f, t, o) (cs.getD k []) = wi at *
      generalize cs.getD k [] = xs at *
      generalize hasW ws k = r at *
      go_wp2_with (first
        | (at_builtin; refine wpList_catS (base := wr.heap.size) (xs := []) (ys := xs) rfl _ _ rfl rfl rfl (So.nil _ _) HSk.out (by simp; omega) (Nat.le_refl _) ?_; intro ao4 n4 cap4 w4 hW4 hB4)
        | fail)
      have hT4 := then_below hT hB4
      have HC4 : Hid (So w4 W.heap.size (.slice ao4 n4 cap4) xs) := hW4.weak hsz
      have HY4 : Hid (Yo w4 W.heap.size (.slice ao' n' cap') (pt k)) := HY.out.later hB4
      clear hW4 hg hcc
      refine (HTh.out _ hT4).mono ?_
      rintro e w5 ⟨rfl, hw⟩
      subst hw
      cases r
      · rw [if_neg (by decide)] at HPk
        clear HWi
        go_wp2_with (first
          | (at_builtin; refine wpList_appY (base := W.heap.size) (cs := pt k) (c := xs) rfl _ _ rfl rfl rfl rfl HY4.out HC4.out HLk hT4.size ?_; intro ao6 n6 cap6 w6 hW6 hB6)
          | go_in)
        go_roundw
        case rel => exact ⟨k + 1, _, _, _, by omega, by go_num, rfl, by show Yo _ _ _ _; rw [HPk.out]; exact hW6, hT4.trans hB6⟩
        case measure => simp [RowKit.intOf]; omega
      · rw [if_pos rfl] at HPk
        obtain ⟨s0, s1, s2, hz⟩ := hK.slot3 hT4
        go_wp2_with fail
        refine (HWi.out _ _ HC4.out.ss).mono ?_
        rintro e w6 ⟨u, rfl, hO, hB6⟩
        obtain ⟨ao6, n6, c6, rfl⟩ := hO.slice
        have hT6 := then_below hT4 hB6
        have HC6 : Hid (So w6 W.heap.size (.slice ao6 n6 c6) wi) := hO.weak hT4.size
        have HY6 : Hid (Yo w6 W.heap.size (.slice ao' n' cap') (pt k)) := HY4.out.later hB6
        clear hO s0 s1 s2 hz
        go_wp2_with (first
          | (at_builtin; refine wpList_appY (base := W.heap.size) (cs := pt k) (c := wi) rfl _ _ rfl rfl rfl rfl HY6.out HC6.out HLk hT6.size ?_; intro ao7 n7 cap7 w7 hW7 hB7)
          | go_in)
        go_roundw
        case rel => exact ⟨k + 1, _, _, _, by omega, by go_num, rfl, by show Yo _ _ _ _; rw [HPk.out]; exact hW7, hT6.trans hB7⟩
        case measure => simp [RowKit.intOf]; omega
    · obtain rfl : k = cs.length := by omega
      have HY2 : Hid (Yo wr w.heap.size (.slice ao' n' cap') (pt cs.length)) := HY.out.weak hB.size
      go_wp2
      go_ret
      exact ⟨_, rfl, HY2.out, then_below hB hT⟩

set_option maxRecDepth 100000 in
set_option maxHeartbeats 8000000 in
theorem rbusyL_calls {cs : List (List Slt)} {v : Value} {x y : Int} (w : World) (hS : Yl w v cs) (h1 : 1 ≤ cs.length) (hn : cs.length ≤ 10000) (hx : ∀ k, (cs.getD k []).length ≤ 10000) :
    Calls Tryz.prog 113 #[v, S2 x y] w fun e W' => ∃ u, e = .returned u ∧ SetR W' w.heap.size u (setOf cs.length (busyP cs x y)) ∧ Below w.heap.size w W' := by
  have hmx : Tryz.prog.follows .mixedOrders = true := by kernel_rfl
  obtain ⟨ao, cap, rfl, hS⟩ := hS.form
  obtain ⟨W, hW, hB, hK⟩ := one_start w (C2 x y) 36
  have HW : Hid (w.alloc (.cells (C2 x y) 36) = W) := hW
  have HS : Hid (Yl W (.slice ao cs.length cap) cs) := hS.later hB
  have HX : Hid (∀ k, (cs.getD k []).length ≤ 10000) := hx
  have HO := from_numsTo (n := cs.length) (busyP cs x y) h1 (by omega)
  have HY : Hid (∀ k, clearC (cs.getD k []) x y = false → numsTo (busyP cs x y) (k + 1) = numsTo (busyP cs x y) k ++ [(k : Int)]) := fun k h => numsTo_yes (by show (!clearC (cs.getD k []) x y) = true; rw [h]; rfl)
  have HN : Hid (∀ k, clearC (cs.getD k []) x y = true → numsTo (busyP cs x y) (k + 1) = numsTo (busyP cs x y) k) := fun k h => numsTo_no (by show (!clearC (cs.getD k []) x y) = false; rw [h]; rfl)
  have HL : Hid (∀ k, (numsTo (busyP cs x y) k).length ≤ k) := numsTo_len _
  have H0 : Hid (numsTo (busyP cs x y) 0 = []) := rfl
  generalize setOf (cs.length : Int) (busyP cs x y) = tgt at *
  generalize numsTo (busyP cs x y) = nt at *
  clear hW hS hx
  go_enter Tryz.func113, Tryz.ntmps113
  go_wp2
  rw [HW.out]
  go_loopw [5, 6] (fun u i wr => ∃ k : Nat, k ≤ cs.length ∧ i = .int .i64 k ∧ Lst wr W.heap.size u (nt k) ∧ Below W.heap.size W wr) (fun _ i _ => cs.length - (RowKit.intOf i).toNat)
  case atStart => exact ⟨0, by omega, rfl, by rw [H0.out]; exact Lst.nil _ _, Below.refl _ _⟩
  case round =>
    obtain ⟨k, hk, rfl, hL, hT⟩ := hrel
    by_cases hlt : (k : Int) < (cs.length : Int)
    · have hk' : k < cs.length := by omega
      obtain ⟨g, off, bo, m, c, rfl, hg, hcc, hs⟩ := (HS.out.later hT).get hk'
      have hlen := HL.out k
      have hlen : (nt k).length ≤ 100000 := by omega
      have HC : Hid (∀ X : Ext wr, Calls Tryz.prog 148 #[.slice bo m c, S2 x y] X.wd fun e W' => e = .returned (.bool (clearC (cs.getD k []) x y)) ∧ Below X.wd.heap.size X.wd W') := fun X => rclear_calls X.wd (hs.later X.le) (by have := HX.out k; omega)
      have HYk : Hid (clearC (cs.getD k []) x y = false → nt (k + 1) = nt k ++ [(k : Int)]) := HY.out k
      have HNk : Hid (clearC (cs.getD k []) x y = true → nt (k + 1) = nt k) := HN.out k
      have y0 : ∀ X : Ext wr, X.wd.cell? ⟨g, off + k, none⟩ = some (.slice bo m c) := fun X => (X.le.cell (p := ⟨g, off + k, none⟩) hg).trans hcc
      have e0 := Ext.cell (hK.later hT) 0
      have e1 := Ext.cell (hK.later hT) 1
      simp at e0 e1
      clear hs
      generalize clearC (cs.getD k []) x y = cl at *
      cases cl
      · have HE : Hid (nt (k + 1) = nt k ++ [(k : Int)]) := HYk.out rfl
        clear HYk HNk
        go_wp2_with fail
        refine wp_region_look hmx (by kernel_rfl) ?_
        repeat (go_big_quiet_step ((go_at_call 148; exact calls_ext (HC.out _))))
        refine wpQuiet_nil ?_
        intro X
        have hL1 := hL.later X.le
        have hT1 := then_below hT X.le
        clear hL hT HC y0 e0 e1
        generalize X.wd = wx at *
        go_wp2_with (at_builtin; refine wpList_app rfl _ _ rfl rfl rfl hL1 hlen hT1.size ?_; intro v5 w5 hL5 hT5)
        go_roundw
        case rel => exact ⟨k + 1, by omega, by go_num, by rw [HE.out]; exact hL5, hT1.trans hT5⟩
        case measure => simp [RowKit.intOf]; omega
      · have HE : Hid (nt (k + 1) = nt k) := HNk.out rfl
        clear HYk HNk
        go_wp2_with fail
        refine wp_region_look hmx (by kernel_rfl) ?_
        repeat (go_big_quiet_step ((go_at_call 148; exact calls_ext (HC.out _))))
        refine wpQuiet_nil ?_
        intro X
        have hL1 := hL.later X.le
        have hT1 := then_below hT X.le
        clear hL hT HC y0 e0 e1
        generalize X.wd = wx at *
        go_wp2
        go_roundw
        case rel => exact ⟨k + 1, by omega, by go_num, by rw [HE.out]; exact hL1, hT1⟩
        case measure => simp [RowKit.intOf]; omega
    · obtain rfl : k = cs.length := by omega
      go_wp2_with fail
      refine (HO.out _ _ _ hL).mono ?_
      rintro e w2 ⟨u, rfl, hR, hB2⟩
      have hR := hR.weak (Nat.le_trans hB.size hT.size)
      go_wp2
      go_ret
      exact ⟨_, rfl, hR, then_below hB (then_below hT hB2)⟩

def tailI (b : Bool) (i : Nat) : List Int := if b then [(i : Int)] else []

end Go.Proofs.YtldcagjnngkabaaGreatDoor

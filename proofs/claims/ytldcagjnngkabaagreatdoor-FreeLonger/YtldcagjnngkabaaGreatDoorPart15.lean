/-
  cals.Busy, cals.Owned: the sets of the numbers of which something holds. (Written by tools/gen/cals_num.py.)
-/
import Derived.Test.YtldcagjnngkabaaGreatDoorPart13
import Derived.Test.YtldcagjnngkabaaGreatDoorPart3
namespace Go.Proofs.YtldcagjnngkabaaGreatDoor
open Go Go.RowKit Go.Shelf

attribute [local go_sem] Oper.semAt_some ext_const

theorem of_numsTo {n : Nat} (p : Nat → Bool) (h1 : 1 ≤ n) (h2 : n ≤ 12288) : Hid (∀ (w : World) (b : Nat) (u : Value), Lst w b u (numsTo p n) → Calls Tryz.prog 128 #[I n, u] w fun e W' => ∃ v, e = .returned (.tuple #[v, I 0]) ∧ SetR W' w.heap.size v (setOf n p) ∧ Below w.heap.size w W') := by
  intro w b u hu
  refine (of_calls w hu.its (by have := numsTo_len p n; omega) n).mono ?_
  rintro e W' ⟨v, ws, rfl, hR, hO, hB⟩
  rw [ofErr_nums p h1 h2]
  obtain rfl := of_nums h1 h2 hO
  exact ⟨_, rfl, hR, hB⟩

/-- Whether an owner has a calendar's moment. -/
def ownB (xs : List Slt) (ow a : Int) : Bool := (atE xs a == 0) && (atV xs a == ow)
theorem ownB_at {xs : List Slt} (h : mayC xs) {ow a : Int} (ha : 0 ≤ a ∧ a < 1099511627776) : ownB xs ow a = decide (atC xs a = some ow) := by
  unfold ownB atE atV
  rw [if_pos (mayCB_iff.2 h), if_pos (mayCB_iff.2 h), momB_yes ha]
  cases e : atC xs a
  · simp
  · rename_i o
    by_cases h : o = ow <;> simp [h]

theorem busyc_calls {w : World} {A : Nat} {xs : List Slt} {v : Value} {x y : Int} (hm : mayC xs) (hs : maySp x y) (hS : Ss w v xs) (ha : Blk w A 36 (C2 x y)) : Calls Tryz.prog 98 #[v, .pointer (some ⟨A, 0, none⟩)] w fun e W' => e = .returned (.bool (!clearC xs x y)) ∧ Below w.heap.size w W' := by
  have HC : Hid (∀ w, Ss w v xs → Calls Tryz.prog 99 #[v, S2 x y] w fun e W' => e = .returned (.tuple #[.bool (clearC xs x y), I 0]) ∧ Below w.heap.size w W') := fun w h => by
    have := cfree_calls (x := x) (y := y) w h
    rwa [show freeB xs x y = clearC xs x y by simp [freeB, mayCB_iff.2 hm, (maySpB_iff x y).2 hs], show freeE xs x y = 0 by simp [freeE, mayCB_iff.2 hm, (maySpB_iff x y).2 hs]] at this
  have HS : Hid (Ss w v xs) := hS
  clear hS hm hs
  generalize clearC xs x y = r at *
  obtain ⟨c0, c1, hz⟩ := ha.pair (Below.refl _ _)
  cases r
  all_goals
    go_enter Tryz.func98, Tryz.ntmps98
    go_wp2_with fail
    refine (HC.out _ HS.out).mono ?_
    rintro e w1 ⟨rfl, hT⟩
    go_wp2
    go_ret
    exact ⟨rfl, hT⟩

set_option maxRecDepth 100000 in
set_option maxHeartbeats 4000000 in
theorem numbers_busy {cs : List (List Slt)} {v : Value} {p : Nat → Bool} (w : World) (A : Nat) (hS : Yl w v cs) (h1 : 1 ≤ cs.length) (h2 : cs.length ≤ 12288)
    (hc : ∀ (wr : World) (k : Nat) (vc : Value), k < cs.length → Below w.heap.size w wr → Ss wr vc (cs.getD k []) → Calls Tryz.prog 98 #[vc, .pointer (some ⟨A, 0, none⟩)] wr fun e W' => e = .returned (.bool (p k)) ∧ Below wr.heap.size wr W') :
    Calls Tryz.prog 125 #[v, .func (.func 98) #[] #[.pointer (some ⟨A, 0, none⟩)]] w fun e W' => ∃ u, e = .returned (.tuple #[u, I 0]) ∧ SetR W' w.heap.size u (setOf cs.length p) ∧ Below w.heap.size w W' := by
  obtain ⟨ao, cap, rfl, hS⟩ := hS.form
  have HS : Hid (Yl w (.slice ao cs.length cap) cs) := hS
  have HC : Hid (∀ (wr : World) (k : Nat) (vc : Value), k < cs.length → Below w.heap.size w wr → Ss wr vc (cs.getD k []) → Calls Tryz.prog 98 #[vc, .pointer (some ⟨A, 0, none⟩)] wr fun e W' => e = .returned (.bool (p k)) ∧ Below wr.heap.size wr W') := hc
  have HO := of_numsTo p h1 h2
  have HY : Hid (∀ k, p k = true → numsTo p (k + 1) = numsTo p k ++ [(k : Int)]) := fun k => numsTo_yes
  have HN : Hid (∀ k, p k = false → numsTo p (k + 1) = numsTo p k) := fun k => numsTo_no
  have HL : Hid (∀ k, (numsTo p k).length ≤ k) := numsTo_len p
  have H0 : Hid (numsTo p 0 = []) := rfl
  generalize setOf (cs.length : Int) p = tgt at *
  generalize numsTo p = nt at *
  clear hS hc
  go_enter Tryz.func125, Tryz.ntmps125
  go_wp2
  go_loopw [6, 11] (fun l i wr => ∃ k : Nat, k ≤ cs.length ∧ i = .int .i64 k ∧ Lst wr w.heap.size l (nt k) ∧ Below w.heap.size w wr) (fun _ i _ => cs.length - (RowKit.intOf i).toNat)
  case atStart => exact ⟨0, by omega, rfl, by rw [H0.out]; exact Lst.nil _ _, Below.refl _ _⟩
  case round =>
    obtain ⟨k, hk, rfl, hL, hT⟩ := hrel
    by_cases hlt : (k : Int) < (cs.length : Int)
    · have hk' : k < cs.length := by omega
      obtain ⟨g, off, bo, m, c, rfl, hg, hcc, hs⟩ := (HS.out.later hT).get hk'
      have HC1 : Hid (Calls Tryz.prog 98 #[.slice bo m c, .pointer (some ⟨A, 0, none⟩)] wr fun e W' => e = .returned (.bool (p k)) ∧ Below wr.heap.size wr W') := HC.out wr k _ hk' hT hs
      have hlen := HL.out k
      have hlen : (nt k).length ≤ 100000 := by omega
      have HYk := HY.out k
      have HNk := HN.out k
      have HYk : Hid (p k = true → nt (k + 1) = nt k ++ [(k : Int)]) := HYk
      have HNk : Hid (p k = false → nt (k + 1) = nt k) := HNk
      generalize p k = q at HC1 HYk HNk
      clear hs
      cases q
      · have HE : Hid (nt (k + 1) = nt k) := HNk.out rfl
        clear HYk HNk
        go_wp2_with fail
        refine HC1.out.mono ?_
        rintro e w1 ⟨rfl, hB1⟩
        go_wp2
        go_roundw
        case rel => exact ⟨k + 1, by omega, by go_num, by rw [HE.out]; exact hL.later hB1, then_below hT hB1⟩
        case measure => simp [RowKit.intOf]; omega
      · have HE : Hid (nt (k + 1) = nt k ++ [(k : Int)]) := HYk.out rfl
        clear HYk HNk
        go_wp2_with fail
        refine HC1.out.mono ?_
        rintro e w1 ⟨rfl, hB1⟩
        have hL1 := hL.later hB1
        have hT1 := then_below hT hB1
        clear hL hB1 hT
        go_wp2_with (at_builtin; refine wpList_app rfl _ _ rfl rfl rfl hL1 hlen hT1.size ?_; intro v5 w5 hL5 hT5)
        go_roundw
        case rel => exact ⟨k + 1, by omega, by go_num, by rw [HE.out]; exact hL5, hT1.trans hT5⟩
        case measure => simp [RowKit.intOf]; omega
    · obtain rfl : k = cs.length := by omega
      go_wp2_with fail
      refine (HO.out _ _ _ hL).mono ?_
      rintro e w2 ⟨u, rfl, hR, hB2⟩
      have hR := hR.weak hT.size
      go_wp2
      go_ret2
      exact ⟨_, rfl, hR, then_below hT hB2⟩

set_option maxRecDepth 100000 in
set_option maxHeartbeats 4000000 in
theorem those_busy {a b c : Int} {n l : Value} {ns ls : List (List Slt)} {p q : Nat → Bool} (w : World) (A : Nat) (hN : Yl w n ns) (hL : Yl w l ls) (hm : mayY a b c ns ls)
    (hc : ∀ (wr : World) (k : Nat) (vc : Value), k < ns.length → Below w.heap.size w wr → Ss wr vc (ns.getD k []) → Calls Tryz.prog 98 #[vc, .pointer (some ⟨A, 0, none⟩)] wr fun e W' => e = .returned (.bool (p k)) ∧ Below wr.heap.size wr W')
    (hd : ∀ (wr : World) (k : Nat) (vc : Value), k < ls.length → Below w.heap.size w wr → Ss wr vc (ls.getD k []) → Calls Tryz.prog 98 #[vc, .pointer (some ⟨A, 0, none⟩)] wr fun e W' => e = .returned (.bool (q k)) ∧ Below wr.heap.size wr W') :
    Calls Tryz.prog 97 #[Y5 a b c n l, .func (.func 98) #[] #[.pointer (some ⟨A, 0, none⟩)]] w fun e W' => ∃ u v, e = .returned (.tuple #[u, v, I 0]) ∧ SetR W' w.heap.size u (setOf ns.length p) ∧ SetR W' w.heap.size v (setOf ls.length q) ∧ Below w.heap.size w W' := by
  obtain ⟨W, hW, hB, hK⟩ := one_start w (K5 a b c n l) 26
  have HW : Hid (w.alloc (.cells (K5 a b c n l) 26) = W) := hW
  have hbd := hm.bd
  have H1 : Hid (Calls Tryz.prog 125 #[n, .func (.func 98) #[] #[.pointer (some ⟨A, 0, none⟩)]] W fun e W' => ∃ u, e = .returned (.tuple #[u, I 0]) ∧ SetR W' W.heap.size u (setOf ns.length p) ∧ Below W.heap.size W W') := numbers_busy W A (hN.later hB) (by omega) (by omega) (fun wr k vc hk hb hs => hc wr k vc hk (then_below hB hb) hs)
  have H2 : Hid (∀ w1, Below W.heap.size W w1 → Calls Tryz.prog 125 #[l, .func (.func 98) #[] #[.pointer (some ⟨A, 0, none⟩)]] w1 fun e W' => ∃ u, e = .returned (.tuple #[u, I 0]) ∧ SetR W' w1.heap.size u (setOf ls.length q) ∧ Below w1.heap.size w1 W') := fun w1 hb => numbers_busy w1 A (hL.later (then_below hB hb)) (by omega) (by omega) (fun wr k vc hk hb' hs => hd wr k vc hk (then_below hB (then_below hb hb')) hs)
  clear hW hc hd hN hL hm hbd
  generalize setOf (ns.length : Int) p = s1 at *
  generalize setOf (ls.length : Int) q = s2 at *
  obtain ⟨p0, p1, p2, p3, p4, hz⟩ := hK.five
  go_enter Tryz.func97, Tryz.ntmps97
  go_wp2_with fail
  rw [HW.out]
  go_wp2_with fail
  refine H1.out.mono ?_
  rintro e w1 ⟨u, rfl, hR, hT⟩
  clear p0 p1 p2 p3 p4 hz
  obtain ⟨p0, p1, p2, p3, p4, hz⟩ := hK.yard hT
  go_wp2_with fail
  refine (H2.out _ hT).mono ?_
  rintro e w2 ⟨v, rfl, hR2, hB2⟩
  have HR : Hid (SetR w2 w.heap.size u s1) := (hR.weak hB.size).later hB2
  have HR2 : Hid (SetR w2 w.heap.size v s2) := hR2.weak (Nat.le_trans hB.size hT.size)
  clear hR hR2
  go_wp2
  refine bodyPost_ret (results_tmp3 rfl _ _ _) rfl ?_
  exact ⟨_, _, rfl, HR.out, HR2.out, then_below hB (then_below hT hB2)⟩

/-- Busy's error, and Owned's. -/
def busyE (a b c : Int) (ns ls : List (List Slt)) (x y : Int) : Int := if mayYB a b c ns ls then (if maySpB x y then 0 else 2) else 8
def ownE (a b c : Int) (ns ls : List (List Slt)) (at' : Int) : Int := if mayYB a b c ns ls then (if momB at' then 0 else 2) else 8
/-- A set that is told where there is no error. -/
def wordsE (er : Int) (n : Nat) (p : Nat → Bool) : List Nat := if er = 0 then setOf n p else []
theorem busyE_zero {a b c : Int} {ns ls : List (List Slt)} {x y : Int} (h : busyE a b c ns ls x y = 0) : mayY a b c ns ls ∧ maySp x y := by
  unfold busyE at h
  split at h
  · rename_i h1
    split at h
    · rename_i h2
      exact ⟨mayYB_iff.1 h1, (maySpB_iff x y).1 h2⟩
    · cases h
  · cases h
theorem ownE_zero {a b c : Int} {ns ls : List (List Slt)} {x : Int} (h : ownE a b c ns ls x = 0) : mayY a b c ns ls ∧ 0 ≤ x ∧ x < 1099511627776 := by
  unfold ownE at h
  split at h
  · rename_i h1
    split at h
    · rename_i h2
      simp only [momB, Bool.and_eq_true, decide_eq_true_eq] at h2
      exact ⟨mayYB_iff.1 h1, h2⟩
    · cases h
  · cases h

set_option maxHeartbeats 4000000 in
theorem cbusy_calls {a b c : Int} {n l : Value} {ns ls : List (List Slt)} {x y : Int} (w : World) (hN : Yl w n ns) (hL : Yl w l ls) (hm : mayY a b c ns ls) (hs : maySp x y) : Calls Tryz.prog 56 #[Y5 a b c n l, S2 x y] w fun e W' => ∃ u v, e = .returned (.tuple #[u, v, I 0]) ∧ SetR W' w.heap.size u (setOf ns.length (busyP ns x y)) ∧ SetR W' w.heap.size v (setOf ls.length (busyP ls x y)) ∧ Below w.heap.size w W' := by
  obtain ⟨W, hW, hB, hK, hK2⟩ := two_start w (K5 a b c n l) (C2 x y) 26 36
  have HW : Hid ((w.alloc (.cells (K5 a b c n l) 26)).alloc (.cells (C2 x y) 36) = W) := hW
  have H1 : Hid (Calls Tryz.prog 97 #[Y5 a b c n l, .func (.func 98) #[] #[.pointer (some ⟨w.heap.size + 1, 0, none⟩)]] W fun e W' => ∃ u v, e = .returned (.tuple #[u, v, I 0]) ∧ SetR W' W.heap.size u (setOf ns.length (busyP ns x y)) ∧ SetR W' W.heap.size v (setOf ls.length (busyP ls x y)) ∧ Below W.heap.size W W') :=
    those_busy W (w.heap.size + 1) (hN.later hB) (hL.later hB) hm (fun wr k vc hk hb hs' => busyc_calls (maysC_may hm.2.2.2.1 k) hs hs' (hK2.later hb)) (fun wr k vc hk hb hs' => busyc_calls (maysC_may hm.2.2.2.2 k) hs hs' (hK2.later hb))
  clear hW hN hL hm hs
  generalize setOf (ns.length : Int) (busyP ns x y) = s1 at *
  generalize setOf (ls.length : Int) (busyP ls x y) = s2 at *
  obtain ⟨p0, p1, p2, p3, p4, hz⟩ := hK.five
  go_enter Tryz.func56, Tryz.ntmps56
  go_wp2_with fail
  rw [HW.out]
  go_wp2_with fail
  refine H1.out.mono ?_
  rintro e w1 ⟨u, v, rfl, hR, hR2, hT⟩
  have HR : Hid (SetR w1 w.heap.size u s1) := hR.weak hB.size
  have HR2 : Hid (SetR w1 w.heap.size v s2) := hR2.weak hB.size
  clear hR hR2
  go_wp2
  refine bodyPost_ret (results_tmp3 rfl _ _ _) rfl ?_
  exact ⟨_, _, rfl, HR.out, HR2.out, then_below hB hT⟩

set_option maxHeartbeats 4000000 in
theorem yBusy_calls {a b c : Int} {n l : Value} {ns ls : List (List Slt)} {x y : Int} (w : World) (hN : Yl w n ns) (hL : Yl w l ls) : Calls Tryz.prog 26 #[Y5 a b c n l, S2 x y] w fun e W' => ∃ u v, e = .returned (.tuple #[u, v, I (busyE a b c ns ls x y)]) ∧ SetR W' w.heap.size u (wordsE (busyE a b c ns ls x y) ns.length (busyP ns x y)) ∧ SetR W' w.heap.size v (wordsE (busyE a b c ns ls x y) ls.length (busyP ls x y)) ∧ Below w.heap.size w W' := by
  obtain ⟨W, hW, hB, hK, hK2⟩ := two_start w (K5 a b c n l) (C2 x y) 26 36
  have HW : Hid ((w.alloc (.cells (K5 a b c n l) 26)).alloc (.cells (C2 x y) 36) = W) := hW
  have HC : Hid (Calls Tryz.prog 28 #[Y5 a b c n l] W fun e W' => e = .returned (I (errY a b c ns ls)) ∧ Below W.heap.size W W') := ycheck_calls W (hN.later hB) (hL.later hB)
  have HT : Hid (∀ w, Calls Tryz.prog 55 #[S2 x y] w fun e W' => e = .returned (I (errS x y)) ∧ Below w.heap.size w W') := tcheck_calls x y
  obtain ⟨p0, p1, p2, p3, p4, hz⟩ := hK.five
  by_cases hm : mayY a b c ns ls
  · rw [errY_ok hm] at HC
    by_cases hs : maySp x y
    · have E : busyE a b c ns ls x y = 0 := by rw [busyE, if_pos (mayYB_iff.2 hm), if_pos ((maySpB_iff x y).2 hs)]
      rw [E, wordsE, if_pos rfl, wordsE, if_pos rfl]
      rw [errS_ok hs] at HT
      have H1 : Hid (∀ w1, Below W.heap.size W w1 → Calls Tryz.prog 56 #[Y5 a b c n l, S2 x y] w1 fun e W' => ∃ u v, e = .returned (.tuple #[u, v, I 0]) ∧ SetR W' w1.heap.size u (setOf ns.length (busyP ns x y)) ∧ SetR W' w1.heap.size v (setOf ls.length (busyP ls x y)) ∧ Below w1.heap.size w1 W') := fun w1 hb => cbusy_calls w1 (hN.later (then_below hB hb)) (hL.later (then_below hB hb)) hm hs
      clear hW hN hL hm hs E
      generalize setOf (ns.length : Int) (busyP ns x y) = s1 at *
      generalize setOf (ls.length : Int) (busyP ls x y) = s2 at *
      go_enter Tryz.func26, Tryz.ntmps26
      go_wp2_with fail
      rw [HW.out]
      go_wp2_with fail
      refine HC.out.mono ?_
      rintro e w1 ⟨rfl, hT⟩
      obtain ⟨c0, c1, hz1⟩ := hK2.pair hT
      clear p0 p1 p2 p3 p4 hz
      obtain ⟨p0, p1, p2, p3, p4, hz⟩ := hK.yard hT
      go_wp2_with fail
      refine (HT.out _).mono ?_
      rintro e w2 ⟨rfl, hB2⟩
      have hT2 := then_below hT hB2
      clear c0 c1 hz1 p0 p1 p2 p3 p4 hz
      obtain ⟨c0, c1, hz1⟩ := hK2.pair hT2
      obtain ⟨p0, p1, p2, p3, p4, hz⟩ := hK.yard hT2
      go_wp2_with fail
      refine (H1.out _ hT2).mono ?_
      rintro e w3 ⟨u, v, rfl, hR, hR2, hB3⟩
      have HR : Hid (SetR w3 w.heap.size u s1) := hR.weak (Nat.le_trans hB.size hT2.size)
      have HR2 : Hid (SetR w3 w.heap.size v s2) := hR2.weak (Nat.le_trans hB.size hT2.size)
      clear hR hR2
      go_wp2
      refine bodyPost_ret (results_tmp3 rfl _ _ _) rfl ?_
      exact ⟨_, _, rfl, HR.out, HR2.out, then_below hB (then_below hT2 hB3)⟩
    · have E : busyE a b c ns ls x y = 2 := by rw [busyE, if_pos (mayYB_iff.2 hm), if_neg (by rw [maySpB_iff]; exact hs)]
      rw [E, wordsE, if_neg (by decide), wordsE, if_neg (by decide)]
      rw [errS_no hs] at HT
      clear hW hN hL hm hs E
      go_enter Tryz.func26, Tryz.ntmps26
      go_wp2_with fail
      rw [HW.out]
      go_wp2_with fail
      refine HC.out.mono ?_
      rintro e w1 ⟨rfl, hT⟩
      obtain ⟨c0, c1, hz1⟩ := hK2.pair hT
      go_wp2_with fail
      refine (HT.out _).mono ?_
      rintro e w2 ⟨rfl, hB2⟩
      go_wp2
      refine bodyPost_ret (results_tmp3 rfl _ _ _) rfl ?_
      exact ⟨_, _, rfl, .inr ⟨rfl, rfl⟩, .inr ⟨rfl, rfl⟩, then_below hB (then_below hT hB2)⟩
  · rw [errY_no hm] at HC
    have E : busyE a b c ns ls x y = 8 := by rw [busyE, mayYB_no hm]; rfl
    rw [E, wordsE, if_neg (by decide), wordsE, if_neg (by decide)]
    clear hW hN hL hm E
    go_enter Tryz.func26, Tryz.ntmps26
    go_wp2_with fail
    rw [HW.out]
    go_wp2_with fail
    refine HC.out.mono ?_
    rintro e w1 ⟨rfl, hT⟩
    go_wp2
    refine bodyPost_ret (results_tmp3 rfl _ _ _) rfl ?_
    exact ⟨_, _, rfl, .inr ⟨rfl, rfl⟩, .inr ⟨rfl, rfl⟩, then_below hB hT⟩
end Go.Proofs.YtldcagjnngkabaaGreatDoor

/-
  cals.checkFree, cals.checkPut: whether a slot may be put; what Put hands to turn.
-/
namespace Go.Proofs.YtldcagjnngkabaaGreatDoor
open Go Go.RowKit Go.Shelf

attribute [local go_sem] Oper.semAt_some ext_const

theorem errAll_8 {n : Int} {wss : List (List Nat)} (h1 : 1 ≤ n) (h2 : n ≤ 12288) (h : errAll n wss ≠ 0) : errAll n wss = 8 := by
  unfold errAll at *
  rw [show okN n = true by simp [okN]; omega] at *
  simp only [if_true] at *
  split at h
  · exact absurd rfl h
  · rename_i hh
    rw [if_neg hh]
theorem putE_nil (f t o : Int) : putE [] (f, t, o) = if maySlB (f, t, o) then 0 else 2 := by
  unfold putE
  rw [if_pos (by rfl)]
  cases maySlB (f, t, o)
  · rfl
  · rfl
/-- Whether a slot may be put, but for room. -/
def takenY (ns ls : List (List Slt)) (mw lw : List Nat) (f t : Int) : Bool := takenC ns (hasW mw) f t ns.length || takenC ls (hasW lw) f t ls.length
def fullY (ns ls : List (List Slt)) (mw lw : List Nat) : Bool := fullC ns (hasW mw) ns.length || fullC ls (hasW lw) ls.length
def freeYE (ns ls : List (List Slt)) (mw lw : List Nat) (f t : Int) : Int := if takenY ns ls mw lw f t then 80 else 0
def checkE (a b c : Int) (ns ls : List (List Slt)) (mw lw : List Nat) (f t o : Int) : Int :=
  if mayYB a b c ns ls then (if errAll ns.length [mw] = 0 then (if errAll ls.length [lw] = 0 then (if maySlB (f, t, o) then freeYE ns ls mw lw f t else 2) else 8) else 8) else 8
structure CheckOk (a b c : Int) (ns ls : List (List Slt)) (mw lw : List Nat) (f t o : Int) : Prop where
  may : mayY a b c ns ls
  mids : errAll ns.length [mw] = 0
  links : errAll ls.length [lw] = 0
  slot : maySl (f, t, o)
theorem checkE_ok {a b c : Int} {ns ls : List (List Slt)} {mw lw : List Nat} {f t o : Int} (h : CheckOk a b c ns ls mw lw f t o) : checkE a b c ns ls mw lw f t o = freeYE ns ls mw lw f t := by
  rw [checkE, if_pos (mayYB_iff.2 h.may), if_pos h.mids, if_pos h.links, if_pos (maySlB_iff.2 h.slot)]
theorem checkE_zero {a b c : Int} {ns ls : List (List Slt)} {mw lw : List Nat} {f t o : Int} (h : checkE a b c ns ls mw lw f t o = 0) : CheckOk a b c ns ls mw lw f t o ∧ takenY ns ls mw lw f t = false := by
  unfold checkE at h
  split at h
  · rename_i h1
    split at h
    · rename_i h2
      split at h
      · rename_i h3
        split at h
        · rename_i h4
          refine ⟨⟨mayYB_iff.1 h1, h2, h3, maySlB_iff.1 h4⟩, ?_⟩
          unfold freeYE at h
          cases e : takenY ns ls mw lw f t
          · rfl
          · rw [e] at h; cases h
        · cases h
      · cases h
    · cases h
  · cases h

theorem taken_meets {cs : List (List Slt)} (h1 : 1 ≤ cs.length) (h2 : cs.length ≤ 12288) (f t : Int) {ws : List Nat} (he : errAll cs.length [ws] = 0) : meetSB cs.length (setOf cs.length (busyP cs f t)) ws = takenC cs (hasW ws) f t cs.length := by
  rw [setOf_meets (by omega) (by omega) _ he, Int.toNat_natCast]
  rfl

theorem Blk.slot3 {W W' : World} {B : Nat} {t : TypeId} {f x o : Int} (h : Blk W B t (C3 f x o)) (hb : Below W.heap.size W W') : W'.cell? ⟨B, 0, none⟩ = some (.int .i64 f) ∧ W'.cell? ⟨B, 1, none⟩ = some (.int .i64 x) ∧ W'.cell? ⟨B, 2, none⟩ = some (.int .i64 o) ∧ B < W'.heap.size := ⟨(h.later hb).cell 0, (h.later hb).cell 1, (h.later hb).cell 2, (h.later hb).lt⟩

set_option maxRecDepth 100000 in
set_option maxHeartbeats 8000000 in
theorem cfreeY_calls {a b c : Int} {n l vm vl : Value} {ns ls : List (List Slt)} {mw lw : List Nat} {x y : Int} (w : World) (hN : Yl w n ns) (hL : Yl w l ls) (hm : mayY a b c ns ls) (hs : maySp x y) (hM : Wds w vm mw) (hK' : Wds w vl lw) (e1 : errAll ns.length [mw] = 0) (e2 : errAll ls.length [lw] = 0) :
    Calls Tryz.prog 90 #[Y5 a b c n l, S2 x y, vm, vl] w fun e W' => e = .returned (I (freeYE ns ls mw lw x y)) ∧ Below w.heap.size w W' := by
  obtain ⟨W, hW, hB, hK, hK2⟩ := two_start w (K5 a b c n l) (C2 x y) 26 36
  have HW : Hid ((w.alloc (.cells (K5 a b c n l) 26)).alloc (.cells (C2 x y) 36) = W) := hW
  have hbd := hm.bd
  have HB : Hid (Calls Tryz.prog 56 #[Y5 a b c n l, S2 x y] W fun e W' => ∃ u v, e = .returned (.tuple #[u, v, I 0]) ∧ SetR W' W.heap.size u (setOf ns.length (busyP ns x y)) ∧ SetR W' W.heap.size v (setOf ls.length (busyP ls x y)) ∧ Below W.heap.size W W') := cbusy_calls W (hN.later hB) (hL.later hB) hm hs
  have HN : Hid (∀ (w1 : World) (u : Value) (b1 : Nat), Below W.heap.size W w1 → SetR w1 b1 u (setOf ns.length (busyP ns x y)) → Calls Tryz.prog 62 #[I ns.length, u, vm] w1 fun e W' => e = .returned (.tuple #[.bool (takenC ns (hasW mw) x y ns.length), I 0]) ∧ Below w1.heap.size w1 W') := fun w1 u b1 hb hu => by
    have := meet_calls w1 hu.wds (hM.later (then_below hB hb)) ns.length
    rwa [taken_meets (by omega) (by omega) x y e1, errAll_both (setOf_err (by omega) (by omega) _) e1] at this
  have HL : Hid (∀ (w1 : World) (u : Value) (b1 : Nat), Below W.heap.size W w1 → SetR w1 b1 u (setOf ls.length (busyP ls x y)) → Calls Tryz.prog 62 #[I ls.length, u, vl] w1 fun e W' => e = .returned (.tuple #[.bool (takenC ls (hasW lw) x y ls.length), I 0]) ∧ Below w1.heap.size w1 W') := fun w1 u b1 hb hu => by
    have := meet_calls w1 hu.wds (hK'.later (then_below hB hb)) ls.length
    rwa [taken_meets (by omega) (by omega) x y e2, errAll_both (setOf_err (by omega) (by omega) _) e2] at this
  obtain ⟨an, cn, rfl, _⟩ := hN.form
  obtain ⟨al, cl, rfl, _⟩ := hL.form
  unfold freeYE takenY
  clear hW hN hL hm hs hM hK' e1 e2 hbd
  generalize setOf (ns.length : Int) (busyP ns x y) = s1 at *
  generalize setOf (ls.length : Int) (busyP ls x y) = s2 at *
  generalize takenC ns (hasW mw) x y ns.length = q1 at *
  generalize takenC ls (hasW lw) x y ls.length = q2 at *
  generalize ns.length = nn at *
  generalize ls.length = ll at *
  cases q1
  all_goals cases q2
  all_goals
    go_enter Tryz.func90, Tryz.ntmps90
    go_wp2_with fail
    rw [HW.out]
    refine HB.out.mono ?_
    rintro e w1 ⟨u, v, rfl, hR, hR2, hT⟩
    obtain ⟨p0, p1, p2, p3, p4, hz⟩ := hK.yard hT
    go_wp2_with fail
    refine (HN.out _ _ _ hT hR).mono ?_
    rintro e w2 ⟨rfl, hB2⟩
    have hT2 := then_below hT hB2
    clear p0 p1 p2 p3 p4 hz
    obtain ⟨p0, p1, p2, p3, p4, hz⟩ := hK.yard hT2
    go_wp2_with fail
    refine (HL.out _ _ _ hT2 (hR2.later hB2)).mono ?_
    rintro e w3 ⟨rfl, hB3⟩
    go_wp2
    go_ret
    exact ⟨rfl, then_below hB (then_below hT2 hB3)⟩

set_option maxRecDepth 100000 in
set_option maxHeartbeats 8000000 in
theorem cput1_calls {n : Int} {ao : Option Addr} {len cap : Nat} {D : Nat} (w : World) : Calls Tryz.prog 50 #[I n, .slice ao len cap, .pointer (some ⟨D, 0, none⟩)] w fun e W' => e = .returned (.func (.func 51) #[] #[.pointer (some ⟨w.heap.size, 0, none⟩), .pointer (some ⟨w.heap.size + 1, 0, none⟩), .pointer (some ⟨D, 0, none⟩)]) ∧ Blk W' w.heap.size 3 #[I n] ∧ Blk W' (w.heap.size + 1) 30 #[.slice ao len cap] ∧ Below w.heap.size w W' := by
  obtain ⟨W, hW, hB, hK, hK2⟩ := two_start w #[I n] #[.slice ao len cap] 3 30
  have HW : Hid ((w.alloc (.cells #[I n] 3)).alloc (.cells #[.slice ao len cap] 30) = W) := hW
  clear hW
  go_enter Tryz.func50, Tryz.ntmps50
  go_wp2
  rw [HW.out]
  go_ret
  exact ⟨rfl, hK, hK2, hB⟩

set_option maxRecDepth 100000 in
set_option maxHeartbeats 8000000 in
theorem ccheckPut_calls {a b c : Int} {n l vm vl : Value} {ns ls : List (List Slt)} {mw lw : List Nat} {f t o : Int} (w : World) (hN : Yl w n ns) (hL : Yl w l ls) (hM : Wds w vm mw) (hK' : Wds w vl lw) :
    Calls Tryz.prog 49 #[Y5 a b c n l, V3 f t o, vm, vl] w fun e W' => e = .returned (I (checkE a b c ns ls mw lw f t o)) ∧ Below w.heap.size w W' := by
  obtain ⟨W, hW, hB, hK, hK2⟩ := two_start w (K5 a b c n l) (C3 f t o) 26 85
  have HW : Hid ((w.alloc (.cells (K5 a b c n l) 26)).alloc (.cells (C3 f t o) 85) = W) := hW
  have HC : Hid (Calls Tryz.prog 28 #[Y5 a b c n l] W fun e W' => e = .returned (I (errY a b c ns ls)) ∧ Below W.heap.size W W') := ycheck_calls W (hN.later hB) (hL.later hB)
  have H1 : Hid (∀ w1, Below W.heap.size W w1 → Calls Tryz.prog 89 #[I ns.length, vm] w1 fun e W' => e = .returned (I (errAll ns.length [mw])) ∧ Below w1.heap.size w1 W') := fun w1 hb => chk_calls w1 (hM.later (then_below hB hb)) _
  have H2 : Hid (∀ w1, Below W.heap.size W w1 → Calls Tryz.prog 89 #[I ls.length, vl] w1 fun e W' => e = .returned (I (errAll ls.length [lw])) ∧ Below w1.heap.size w1 W') := fun w1 hb => chk_calls w1 (hK'.later (then_below hB hb)) _
  have H3 : Hid (∀ w1, Calls Tryz.prog 53 #[.slice none 0 0, V3 f t o] w1 fun e W' => ∃ u, e = .returned (.tuple #[u, I (if maySlB (f, t, o) then 0 else 2)]) ∧ Below w1.heap.size w1 W') := fun w1 => by
    refine (cput_all (f := f) (t := t) (o := o) w1 (Ss.nil w1)).mono ?_
    rintro e W' ⟨u, rfl, _, hb⟩
    rw [putE_nil]
    exact ⟨_, rfl, hb⟩
  have H4 : Hid (CheckOk a b c ns ls mw lw f t o → ∀ w1, Below W.heap.size W w1 → Calls Tryz.prog 90 #[Y5 a b c n l, S2 f t, vm, vl] w1 fun e W' => e = .returned (I (freeYE ns ls mw lw f t)) ∧ Below w1.heap.size w1 W') := fun h w1 hb => cfreeY_calls w1 (hN.later (then_below hB hb)) (hL.later (then_below hB hb)) h.may h.slot.1 (hM.later (then_below hB hb)) (hK'.later (then_below hB hb)) h.mids h.links
  obtain ⟨an, cn, rfl, _⟩ := hN.form
  obtain ⟨al, cl, rfl, _⟩ := hL.form
  clear hW hN hL hM hK'
  by_cases hm : mayY a b c ns ls
  · have E := errY_ok hm
    rw [E] at HC
    have hbd := hm.bd
    by_cases h1 : errAll ns.length [mw] = 0
    · rw [h1] at H1
      by_cases h2 : errAll ls.length [lw] = 0
      · rw [h2] at H2
        cases h3 : maySlB (f, t, o)
        · rw [show checkE a b c ns ls mw lw f t o = 2 by rw [checkE, if_pos (mayYB_iff.2 hm), if_pos h1, if_pos h2, h3]; rfl]
          rw [h3] at H3
          have H3 : Hid (∀ w1, Calls Tryz.prog 53 #[.slice none 0 0, V3 f t o] w1 fun e W' => ∃ u, e = .returned (.tuple #[u, I 2]) ∧ Below w1.heap.size w1 W') := H3
          clear hm h1 h2 h3 E hbd H4
          generalize ns.length = nn at *
          generalize ls.length = ll at *
          go_enter Tryz.func49, Tryz.ntmps49
          go_wp2_with fail
          rw [HW.out]
          refine HC.out.mono ?_
          rintro e w1 ⟨rfl, hT⟩
          obtain ⟨p0, p1, p2, p3, p4, hz⟩ := hK.yard hT
          go_wp2_with fail
          refine (H1.out _ hT).mono ?_
          rintro e w2 ⟨rfl, hB2⟩
          have hT2 := then_below hT hB2
          clear p0 p1 p2 p3 p4 hz
          obtain ⟨p0, p1, p2, p3, p4, hz⟩ := hK.yard hT2
          go_wp2_with fail
          refine (H2.out _ hT2).mono ?_
          rintro e w3 ⟨rfl, hB3⟩
          have hT3 := then_below hT2 hB3
          clear p0 p1 p2 p3 p4 hz
          obtain ⟨p0, p1, p2, p3, p4, hz⟩ := hK.yard hT3
          obtain ⟨s0, s1, s2, s3⟩ := hK2.slot3 hT3
          go_wp2_with fail
          refine (H3.out _).mono ?_
          rintro e w4 ⟨u, rfl, hB4⟩
          go_wp2
          go_ret
          exact ⟨rfl, then_below hB (then_below hT3 hB4)⟩
        · have hc : CheckOk a b c ns ls mw lw f t o := ⟨hm, h1, h2, maySlB_iff.1 h3⟩
          rw [checkE_ok hc]
          rw [h3] at H3
          have H3 : Hid (∀ w1, Calls Tryz.prog 53 #[.slice none 0 0, V3 f t o] w1 fun e W' => ∃ u, e = .returned (.tuple #[u, I 0]) ∧ Below w1.heap.size w1 W') := H3
          have H5 : Hid (∀ w1, Below W.heap.size W w1 → Calls Tryz.prog 90 #[Y5 a b c (.slice an ns.length cn) (.slice al ls.length cl), S2 f t, vm, vl] w1 fun e W' => e = .returned (I (freeYE ns ls mw lw f t)) ∧ Below w1.heap.size w1 W') := H4.out hc
          clear hm h1 h2 h3 E hbd H4 hc
          generalize freeYE ns ls mw lw f t = er at *
          generalize ns.length = nn at *
          generalize ls.length = ll at *
          go_enter Tryz.func49, Tryz.ntmps49
          go_wp2_with fail
          rw [HW.out]
          refine HC.out.mono ?_
          rintro e w1 ⟨rfl, hT⟩
          obtain ⟨p0, p1, p2, p3, p4, hz⟩ := hK.yard hT
          go_wp2_with fail
          refine (H1.out _ hT).mono ?_
          rintro e w2 ⟨rfl, hB2⟩
          have hT2 := then_below hT hB2
          clear p0 p1 p2 p3 p4 hz
          obtain ⟨p0, p1, p2, p3, p4, hz⟩ := hK.yard hT2
          go_wp2_with fail
          refine (H2.out _ hT2).mono ?_
          rintro e w3 ⟨rfl, hB3⟩
          have hT3 := then_below hT2 hB3
          clear p0 p1 p2 p3 p4 hz
          obtain ⟨p0, p1, p2, p3, p4, hz⟩ := hK.yard hT3
          obtain ⟨s0, s1, s2, s3⟩ := hK2.slot3 hT3
          go_wp2_with fail
          refine (H3.out _).mono ?_
          rintro e w4 ⟨u, rfl, hB4⟩
          have hT4 := then_below hT3 hB4
          clear s0 s1 s2 s3 p0 p1 p2 p3 p4 hz
          obtain ⟨p0, p1, p2, p3, p4, hz⟩ := hK.yard hT4
          obtain ⟨s0, s1, s2, s3⟩ := hK2.slot3 hT4
          go_wp2_with fail
          refine (H5.out _ hT4).mono ?_
          rintro e w5 ⟨rfl, hB5⟩
          go_wp2
          go_ret
          exact ⟨rfl, then_below hB (then_below hT4 hB5)⟩
      · have h8 := errAll_8 (by omega) (by omega) h2
        rw [show checkE a b c ns ls mw lw f t o = 8 by rw [checkE, if_pos (mayYB_iff.2 hm), if_pos h1, if_neg h2]]
        rw [h8] at H2
        clear hm h1 h2 h8 E hbd H3 H4
        generalize ns.length = nn at *
        generalize ls.length = ll at *
        go_enter Tryz.func49, Tryz.ntmps49
        go_wp2_with fail
        rw [HW.out]
        refine HC.out.mono ?_
        rintro e w1 ⟨rfl, hT⟩
        obtain ⟨p0, p1, p2, p3, p4, hz⟩ := hK.yard hT
        go_wp2_with fail
        refine (H1.out _ hT).mono ?_
        rintro e w2 ⟨rfl, hB2⟩
        have hT2 := then_below hT hB2
        clear p0 p1 p2 p3 p4 hz
        obtain ⟨p0, p1, p2, p3, p4, hz⟩ := hK.yard hT2
        go_wp2_with fail
        refine (H2.out _ hT2).mono ?_
        rintro e w3 ⟨rfl, hB3⟩
        have hT3 := then_below hT2 hB3
        go_wp2
        go_ret
        exact ⟨rfl, then_below hB hT3⟩
    · have h8 := errAll_8 (by omega) (by omega) h1
      rw [show checkE a b c ns ls mw lw f t o = 8 by rw [checkE, if_pos (mayYB_iff.2 hm), if_neg h1]]
      rw [h8] at H1
      clear hm h1 h8 E hbd H2 H3 H4
      generalize ns.length = nn at *
      generalize ls.length = ll at *
      go_enter Tryz.func49, Tryz.ntmps49
      go_wp2_with fail
      rw [HW.out]
      refine HC.out.mono ?_
      rintro e w1 ⟨rfl, hT⟩
      obtain ⟨p0, p1, p2, p3, p4, hz⟩ := hK.yard hT
      go_wp2_with fail
      refine (H1.out _ hT).mono ?_
      rintro e w2 ⟨rfl, hB2⟩
      have hT2 := then_below hT hB2
      go_wp2
      go_ret
      exact ⟨rfl, then_below hB hT2⟩
  · have E := errY_no hm
    rw [E] at HC
    rw [show checkE a b c ns ls mw lw f t o = 8 by rw [checkE, mayYB_no hm]; rfl]
    clear hm E H1 H2 H3 H4
    generalize ns.length = nn at *
    generalize ls.length = ll at *
    go_enter Tryz.func49, Tryz.ntmps49
    go_wp2_with fail
    rw [HW.out]
    refine HC.out.mono ?_
    rintro e w1 ⟨rfl, hT⟩
    go_wp2
    go_ret
    exact ⟨rfl, then_below hB hT⟩

end Go.Proofs.YtldcagjnngkabaaGreatDoor

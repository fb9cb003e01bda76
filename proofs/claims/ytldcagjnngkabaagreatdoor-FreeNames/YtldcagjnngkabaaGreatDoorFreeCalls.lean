/-
  free.Avoid, free.Holds, free.Soon: what each answers, for every input.
-/
import Derived.Test.YtldcagjnngkabaaGreatDoorPart40
import Derived.Test.YtldcagjnngkabaaGreatDoorPart43
import Derived.Test.YtldcagjnngkabaaGreatDoorPart45
namespace Go.Proofs.YtldcagjnngkabaaGreatDoor
open Go Go.RowKit Go.Shelf

attribute [local go_sem] Oper.semAt_some ext_const

/-- Two sets may be, of so many midplanes. -/
def mayW (n : Nat) (mw lw : List Nat) : Bool := maySet n mw && maySet (3 * n) lw
theorem errAll_one {n : Nat} (h1 : 1 ≤ n) (h2 : n ≤ 12288) (ws : List Nat) : errAll n [ws] = if maySet n ws then 0 else 8 := errAll_may2 h1 h2 ws
theorem errAll_pair {n : Nat} (h1 : 1 ≤ n) (h2 : n ≤ 12288) (p : Nat → Bool) (ws : List Nat) : errAll n [setOf n p, ws] = if maySet n ws then 0 else 8 := by
  rw [errAll_second (setOf_err (by omega) (by omega) p), errAll_one h1 h2]
theorem avoE_is {n : Nat} (h1 : 1 ≤ n) (h2 : n ≤ 4096) (p q : Nat → Bool) (mw lw : List Nat) : avoE n (setOf n p) (setOf (3 * (n : Int)) q) mw lw = if mayW n mw lw then 0 else 8 := by
  unfold avoE
  have e : (3 * (n : Int)) = ((3 * n : Nat) : Int) := by omega
  rw [e, errAll_pair h1 (by omega), errAll_pair (by omega) (by omega)]
  unfold mayW pairE
  cases maySet n mw <;> cases maySet (3 * n) lw <;> rfl
theorem mayW_err {n : Nat} (h1 : 1 ≤ n) (h2 : n ≤ 4096) {mw lw : List Nat} (h : mayW n mw lw = true) : errAll n [mw] = 0 ∧ errAll (3 * (n : Int)) [lw] = 0 := by
  unfold mayW at h
  rw [Bool.and_eq_true] at h
  have e : (3 * (n : Int)) = ((3 * n : Nat) : Int) := by omega
  rw [e, errAll_one h1 (by omega), errAll_one (by omega) (by omega), h.1, h.2]
  exact ⟨rfl, rfl⟩
/-- No number that is asked for is in a set. -/
def offW (n : Nat) (p : Nat → Bool) (ws : List Nat) : Bool := !(List.range n).any fun k => hasW ws k && p k
theorem offW_iff {n : Nat} {p : Nat → Bool} {ws : List Nat} : offW n p ws = true ↔ ∀ k, k < n → p k = true → hasW ws k = false := by
  unfold offW
  rw [Bool.not_eq_true', List.any_eq_false]
  constructor
  · intro h k hk hp
    have := h k (List.mem_range.2 hk)
    simpa [hp] using this
  · intro h k hk
    have := h k (List.mem_range.1 hk)
    cases hp : p k
    · simp
    · simp [this hp]
theorem farB_is {n : Nat} (h1 : 1 ≤ n) (h2 : n ≤ 4096) (p q : Nat → Bool) (mw lw : List Nat) : farB n (setOf n p) (setOf (3 * (n : Int)) q) mw lw = (mayW n mw lw && (offW n p mw && offW (3 * n) q lw)) := by
  have e0 := avoE_is h1 h2 p q mw lw
  unfold avoE at e0
  unfold farB
  rw [e0]
  cases hm : mayW n mw lw
  · rfl
  · obtain ⟨e1, e2⟩ := mayW_err h1 h2 hm
    rw [setOf_meets (by omega) (by omega) p e1, setOf_meets (by omega) (by omega) q e2]
    have e3 : (3 * (n : Int)).toNat = 3 * n := by omega
    rw [e3, Int.toNat_natCast]
    rfl

/-- The error, and the sets, of free.Avoid. -/
def avE (a b c : Int) (ns ls : List (List Slt)) (mw lw : List Nat) (x y : Int) : Int := if busyE a b c ns ls x y = 0 then (if mayW ns.length mw lw then 0 else 8) else busyE a b c ns ls x y

set_option maxRecDepth 100000 in
set_option maxHeartbeats 8000000 in
theorem avoid_yes {a b c x y : Int} {n l vm vl : Value} {ns ls : List (List Slt)} {mw lw : List Nat} (w : World) (hN : Yl w n ns) (hL : Yl w l ls) (hM : Wds w vm mw) (hK : Wds w vl lw) (hm : mayY a b c ns ls) (hs : maySp x y) :
    Calls Tryz.prog 9 #[Y5 a b c n l, vm, vl, S2 x y] w fun e W' => ∃ u v, e = .returned (.tuple #[u, v, I (if mayW ns.length mw lw then 0 else 8)]) ∧ SetR W' w.heap.size u (wordsE (if mayW ns.length mw lw then 0 else 8) ns.length (fun k => busyP ns x y k || hasW mw k)) ∧
      SetR W' w.heap.size v (wordsE (if mayW ns.length mw lw then 0 else 8) ls.length (fun k => busyP ls x y k || hasW lw k)) ∧ Below w.heap.size w W' := by
  obtain ⟨h1, h2, h3⟩ := hm.bd
  have hd := hm.1
  have hNN := hm.2.1
  obtain ⟨W, hW, hB0, k0, k1⟩ := two_start w (K5 a b c n l) (C2 x y) 26 36
  have HW : Hid ((w.alloc (.cells (K5 a b c n l) 26)).alloc (.cells (C2 x y) 36) = W) := hW
  have he : busyE a b c ns ls x y = 0 := by rw [busyE, if_pos (mayYB_iff.2 hm), if_pos ((maySpB_iff x y).2 hs)]
  have HB : Hid (Calls Tryz.prog 26 #[Y5 a b c n l, S2 x y] W fun e W' => ∃ u v, e = .returned (.tuple #[u, v, I 0]) ∧ SetR W' W.heap.size u (setOf ns.length (busyP ns x y)) ∧ SetR W' W.heap.size v (setOf ls.length (busyP ls x y)) ∧ Below W.heap.size W W') := by
    have := yBusy_calls (a := a) (b := b) (c := c) (x := x) (y := y) W (hN.later hB0) (hL.later hB0)
    rw [he] at this
    exact this
  have HJ : Hid (∀ w' u v, Below W.heap.size W w' → Wds w' u (setOf ns.length (busyP ns x y)) → Wds w' v (setOf ls.length (busyP ls x y)) → Calls Tryz.prog 27 #[A3 a b c, V2 u v, V2 vm vl, .func (.func 22) #[] #[]] w' fun e W' => ∃ x' y', e = .returned (.tuple #[x', y', I (if mayW ns.length mw lw then 0 else 8)]) ∧
      SetR W' w'.heap.size x' (wordsE (if mayW ns.length mw lw then 0 else 8) ns.length (fun k => busyP ns x y k || hasW mw k)) ∧ SetR W' w'.heap.size y' (wordsE (if mayW ns.length mw lw then 0 else 8) ls.length (fun k => busyP ls x y k || hasW lw k)) ∧ Below w'.heap.size w' W') := fun w' u v hb hu hv => by
    have hl3 : (ls.length : Int) = 3 * (ns.length : Int) := by omega
    have J := joinS_calls w' hd hu hv (hM.later (then_below hB0 hb)) (hK.later (then_below hB0 hb))
    have hE := avoE_is h1 h2 (busyP ns x y) (busyP ls x y) mw lw
    unfold avoE at hE
    rw [hl3] at J
    rw [← hNN, hE] at J
    refine J.mono ?_
    rintro e W' ⟨x', y', rfl, hx, hy, hB⟩
    refine ⟨x', y', rfl, ?_, ?_, hB⟩
    · cases hmw : mayW ns.length mw lw
      · rw [hmw] at hE
        obtain h0 | h0 : errAll (ns.length : Int) [setOf ns.length (busyP ns x y), mw] ≠ 0 ∨ errAll (3 * (ns.length : Int)) [setOf (3 * (ns.length : Int)) (busyP ls x y), lw] ≠ 0 := by
          by_cases q : errAll (ns.length : Int) [setOf ns.length (busyP ns x y), mw] = 0
          · right; intro q2; rw [q, q2] at hE; simp [pairE] at hE
          · exact .inl q
        · rw [pairW_1 h0] at hx; exact hx
        · rw [pairW_2 h0] at hx; exact hx
      · obtain ⟨q1, q2⟩ := mayW_err h1 h2 hmw
        rw [hmw] at hE
        obtain ⟨z1, z2⟩ := pairE_ok hE
        rw [z1, z2, pairW_0, setOf_or (by omega) (by omega) _ hM.1 q1] at hx
        exact hx
    · cases hmw : mayW ns.length mw lw
      · rw [hmw] at hE
        obtain h0 | h0 : errAll (ns.length : Int) [setOf ns.length (busyP ns x y), mw] ≠ 0 ∨ errAll (3 * (ns.length : Int)) [setOf (3 * (ns.length : Int)) (busyP ls x y), lw] ≠ 0 := by
          by_cases q : errAll (ns.length : Int) [setOf ns.length (busyP ns x y), mw] = 0
          · right; intro q2; rw [q, q2] at hE; simp [pairE] at hE
          · exact .inl q
        · rw [pairW_1 h0] at hy; exact hy
        · rw [pairW_2 h0] at hy; exact hy
      · obtain ⟨q1, q2⟩ := mayW_err h1 h2 hmw
        rw [hmw] at hE
        obtain ⟨z1, z2⟩ := pairE_ok hE
        rw [z1, z2, pairW_0, setOf_or (by omega) (by omega) _ hK.1 q2, ← hl3] at hy
        exact hy
  obtain ⟨_, _, rfl, _⟩ := hN.form
  obtain ⟨_, _, rfl, _⟩ := hL.form
  obtain ⟨_, _, _, rfl⟩ := hM.form
  obtain ⟨_, _, _, rfl⟩ := hK.form
  clear hW hN hL hM hK hm hs he h1 h2 h3 hd hNN
  generalize wordsE (if mayW ns.length mw lw then 0 else 8) ns.length (fun k => busyP ns x y k || hasW mw k) = Z1 at *
  generalize wordsE (if mayW ns.length mw lw then 0 else 8) ls.length (fun k => busyP ls x y k || hasW lw k) = Z2 at *
  generalize (if mayW ns.length mw lw then (0 : Int) else 8) = er at *
  generalize setOf ns.length (busyP ns x y) = S1 at *
  generalize setOf ls.length (busyP ls x y) = S2' at *
  generalize ns.length = n1 at *
  generalize ls.length = n2 at *
  obtain ⟨p0, p1, p2, p3, p4, hz⟩ := k0.five
  obtain ⟨x0, x1, hz1⟩ := k1.pair (Below.refl _ _)
  go_enter Tryz.func9, Tryz.ntmps9
  go_wp2_with fail
  rw [HW.out]
  refine HB.out.mono ?_
  rintro e w1 ⟨u, v, rfl, hu, hv, hT⟩
  have HU : Hid (Wds w1 u S1) := hu.wds
  have HV : Hid (Wds w1 v S2') := hv.wds
  obtain ⟨_, _, _, rfl⟩ := hu.slice
  obtain ⟨_, _, _, rfl⟩ := hv.slice
  clear hu hv p0 p1 p2 p3 p4 hz x0 x1 hz1
  obtain ⟨p0, p1, p2, p3, p4, hz⟩ := k0.yard hT
  go_wp2_with fail
  refine (HJ.out w1 _ _ hT HU.out HV.out).mono ?_
  rintro e w2 ⟨x', y', rfl, hx, hy, hT2⟩
  have HF : Hid (SetR w2 w.heap.size x' Z1 ∧ SetR w2 w.heap.size y' Z2 ∧ Below w.heap.size w w2) := ⟨hx.weak (then_below hB0 hT).size, hy.weak (then_below hB0 hT).size, then_below hB0 (then_below hT hT2)⟩
  clear hx hy
  go_wp2
  exact bodyPost_ret (results_tmp3 rfl _ _ _) rfl ⟨_, _, rfl, HF.out.1, HF.out.2.1, HF.out.2.2⟩

set_option maxRecDepth 100000 in
set_option maxHeartbeats 8000000 in
theorem avoid_err {a b c x y : Int} {n l vm vl : Value} {ns ls : List (List Slt)} {mw lw : List Nat} (w : World) (hN : Yl w n ns) (hL : Yl w l ls) (hM : Wds w vm mw) (hK : Wds w vl lw) (h0 : busyE a b c ns ls x y ≠ 0) :
    Calls Tryz.prog 9 #[Y5 a b c n l, vm, vl, S2 x y] w fun e W' => e = .returned (.tuple #[.slice none 0 0, .slice none 0 0, I (busyE a b c ns ls x y)]) ∧ Below w.heap.size w W' := by
  obtain ⟨W, hW, hB0, k0, k1⟩ := two_start w (K5 a b c n l) (C2 x y) 26 36
  have HW : Hid ((w.alloc (.cells (K5 a b c n l) 26)).alloc (.cells (C2 x y) 36) = W) := hW
  have HB : Hid (Calls Tryz.prog 26 #[Y5 a b c n l, S2 x y] W fun e W' => ∃ u v, e = .returned (.tuple #[u, v, I (busyE a b c ns ls x y)]) ∧ Below W.heap.size W W') := by
    refine (yBusy_calls (a := a) (b := b) (c := c) (x := x) (y := y) W (hN.later hB0) (hL.later hB0)).mono ?_
    rintro e W' ⟨u, v, h, _, _, hB⟩
    exact ⟨u, v, h, hB⟩
  obtain ⟨_, _, rfl, _⟩ := hN.form
  obtain ⟨_, _, rfl, _⟩ := hL.form
  obtain ⟨_, _, _, rfl⟩ := hM.form
  obtain ⟨_, _, _, rfl⟩ := hK.form
  clear hW hN hL hM hK
  generalize busyE a b c ns ls x y = er at *
  have hne : (er != 0) = true := by simpa using h0
  clear h0
  generalize ns.length = n1 at *
  generalize ls.length = n2 at *
  obtain ⟨p0, p1, p2, p3, p4, hz⟩ := k0.five
  obtain ⟨x0, x1, hz1⟩ := k1.pair (Below.refl _ _)
  go_enter Tryz.func9, Tryz.ntmps9
  go_wp2_with fail
  rw [HW.out]
  refine HB.out.mono ?_
  rintro e w1 ⟨u, v, rfl, hT⟩
  go_wp2
  exact bodyPost_ret (results_tmp3 rfl _ _ _) rfl ⟨rfl, then_below hB0 hT⟩

/-- free.Avoid, whatever it is handed. -/
theorem avoid_calls {a b c x y : Int} {n l vm vl : Value} {ns ls : List (List Slt)} {mw lw : List Nat} (w : World) (hN : Yl w n ns) (hL : Yl w l ls) (hM : Wds w vm mw) (hK : Wds w vl lw) :
    Calls Tryz.prog 9 #[Y5 a b c n l, vm, vl, S2 x y] w fun e W' => ∃ u v, e = .returned (.tuple #[u, v, I (avE a b c ns ls mw lw x y)]) ∧ SetR W' w.heap.size u (wordsE (avE a b c ns ls mw lw x y) ns.length (fun k => busyP ns x y k || hasW mw k)) ∧
      SetR W' w.heap.size v (wordsE (avE a b c ns ls mw lw x y) ls.length (fun k => busyP ls x y k || hasW lw k)) ∧ Below w.heap.size w W' := by
  by_cases h0 : busyE a b c ns ls x y = 0
  · have hm : mayY a b c ns ls := by
      refine mayYB_iff.1 ?_
      cases e : mayYB a b c ns ls
      · simp [busyE, e] at h0
      · rfl
    have hs : maySp x y := by
      refine (maySpB_iff x y).1 ?_
      cases e : maySpB x y
      · simp [busyE, mayYB_iff.2 hm, e] at h0
      · rfl
    rw [avE, if_pos h0]
    exact avoid_yes w hN hL hM hK hm hs
  · rw [avE, if_neg h0]
    refine (avoid_err w hN hL hM hK h0).mono ?_
    rintro e W' ⟨rfl, hB⟩
    exact ⟨_, _, rfl, .inr ⟨rfl, by rw [wordsE, if_neg h0]⟩, .inr ⟨rfl, by rw [wordsE, if_neg h0]⟩, hB⟩

/-- Which numbers a place takes. -/
def midP (a b c : Int) (bx : Bx) (k : Nat) : Bool := hasB a b c bx (k : Int)
def cabP (a b c : Int) (bx : Bx) (t0 t1 t2 : Bool) (k : Nat) : Bool := cabB a b c bx t0 t1 t2 (k : Int)
/-- Whether a place is free of two sets. -/
def wellB (a b c : Int) (bx : Bx) (t0 t1 t2 : Bool) (mw lw : List Nat) : Bool := offW (a * b * c).toNat (midP a b c bx) mw && offW (3 * (a * b * c).toNat) (cabP a b c bx t0 t1 t2) lw
def hoE (a b c : Int) (bx : Bx) (t0 t1 t2 : Bool) (mw lw : List Nat) : Int := if errP a b c bx t0 t1 t2 = 0 then (if mayW (a * b * c).toNat mw lw then 0 else 8) else errP a b c bx t0 t1 t2
def hoB (a b c : Int) (bx : Bx) (t0 t1 t2 : Bool) (mw lw : List Nat) : Bool := decide (hoE a b c bx t0 t1 t2 mw lw = 0) && wellB a b c bx t0 t1 t2 mw lw

theorem avo_place {a b c : Int} (hm : mayD a b c) (bx : Bx) (t0 t1 t2 : Bool) (mw lw : List Nat) : avoE (a * b * c) (midW a b c bx) (cabsW a b c bx t0 t1 t2) mw lw = if mayW (a * b * c).toNat mw lw then 0 else 8 := by
  have hb := N_bd hm
  obtain ⟨n, hn⟩ : ∃ n : Nat, a * b * c = n := ⟨(a * b * c).toNat, by omega⟩
  unfold midW cabsW
  rw [hn, Int.toNat_natCast]
  exact avoE_is (by omega) (by omega) _ _ mw lw
theorem far_place {a b c : Int} (hm : mayD a b c) (bx : Bx) (t0 t1 t2 : Bool) (mw lw : List Nat) : farB (a * b * c) (midW a b c bx) (cabsW a b c bx t0 t1 t2) mw lw = (mayW (a * b * c).toNat mw lw && wellB a b c bx t0 t1 t2 mw lw) := by
  have hb := N_bd hm
  obtain ⟨n, hn⟩ : ∃ n : Nat, a * b * c = n := ⟨(a * b * c).toNat, by omega⟩
  unfold midW cabsW wellB
  rw [hn, Int.toNat_natCast]
  exact farB_is (by omega) (by omega) _ _ mw lw
/-- free.Holds, whatever it is handed. -/
theorem holds_calls {a b c : Int} {bx : Bx} (t0 t1 t2 : Bool) {mw lw : List Nat} {vm vl : Value} (w : World) (hM : Wds w vm mw) (hL : Wds w vl lw) :
    Calls Tryz.prog 12 #[A3 a b c, P9 bx t0 t1 t2, vm, vl] w fun e W' => e = .returned (.tuple #[.bool (hoB a b c bx t0 t1 t2 mw lw), I (hoE a b c bx t0 t1 t2 mw lw)]) ∧ Below w.heap.size w W' := by
  rcases errP_cases a b c bx t0 t1 t2 with ⟨hm, hp, he⟩ | ⟨he, _⟩
  · have := holds_ok w hm hp hM hL
    rw [avo_place hm, far_place hm] at this
    have e1 : hoE a b c bx t0 t1 t2 mw lw = if mayW (a * b * c).toNat mw lw then 0 else 8 := by rw [hoE, if_pos he]
    have e2 : hoB a b c bx t0 t1 t2 mw lw = (mayW (a * b * c).toNat mw lw && wellB a b c bx t0 t1 t2 mw lw) := by
      rw [hoB, e1]
      cases mayW (a * b * c).toNat mw lw <;> rfl
    rw [e1, e2]
    exact this
  · have h0 : errP a b c bx t0 t1 t2 ≠ 0 := by rcases he with h | h <;> rw [h] <;> decide
    have e1 : hoE a b c bx t0 t1 t2 mw lw = errP a b c bx t0 t1 t2 := by rw [hoE, if_neg h0]
    have e2 : hoB a b c bx t0 t1 t2 mw lw = false := by rw [hoB, e1, decide_eq_false h0, Bool.false_and]
    rw [e1, e2]
    exact holds_err t0 t1 t2 w (by simpa using h0)

end Go.Proofs.YtldcagjnngkabaaGreatDoor
